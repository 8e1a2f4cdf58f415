/-
  Several texts in one: CircOpen, CircF, Tiny, Keep, Gkl1, Gkl2, RefVars, Gkl3; each opens with what it holds.
-/
import Derived.Test.YtkhacijkfjcdeaaDoorChecked
import Derived.Test.YtkhacijkfjcdeaaDoorCirc
import Derived.OpenShut
import Derived.Deep.Strs
import Derived.Deep.SlicePairs
import Derived.Test.YtkhacijkfjcdeaaDoorCircC
import Derived.Test.YtkhacijkfjcdeaaDoorOwn
import Derived.WalkKit
import Derived.Laws.CopyOwn
import Derived.MapKept
import Derived.Deep.OwnRows
import Derived.Deep.DrawnRows
import Derived.Test.YtkhacijkfjcdeaaDoorMGkB
import Derived.Test.YtkhacijkfjcdeaaDoorMRef
import Derived.Deep.RegionHeld3
import Derived.Test.YtkhacijkfjcdeaaDoorMFiat
import Derived.Test.YtkhacijkfjcdeaaDoorMem
import Derived.Deep.LoopGhost
import Derived.Deep.Light
/-
  What a circuit that came in gives the walk.
-/
namespace Go.Proofs.YtkhacijkfjcdeaaDoor
open Go.ChangeShapes Go.WideShapes Go.RowKit Go.Deep
set_option linter.unusedVariables false

/-- Numbers of Go's int. -/
def I64 (a : Int) : Prop := -9223372036854775808 ≤ a ∧ a ≤ 9223372036854775807
theorem i64_of_wf {a : Int} (h : (Lit.int .i64 a).wf = true) : I64 a := by
  simp [Lit.wf, IntKind.min, IntKind.max, IntKind.signed, IntKind.bits] at h
  unfold I64
  omega
/-- A circuit that came in. -/
structure IsCirc (w : World) (g : Int) (a : Option Addr) (len cap : Nat) (c : CQ) (A : Nat → Option Addr) (C : Nat → Nat) : Prop where
  log : c.log = g
  logR : I64 g
  lenE : c.layers.length = len
  capE : len ≤ cap
  maxE : cap ≤ maxLen
  row : CRow w a c.layers A C
  rng : ∀ l ∈ c.layers, I64 l.log ∧ l.gates.length ≤ maxLen ∧ ∀ q ∈ l.gates, I64 q.a ∧ I64 q.b
theorem add_three (a : Addr) (i j : Nat) : (a.add (i * 3)).add j = a.add (3 * i + j) := by rw [add_add, Nat.mul_comm]
theorem add_two (a : Addr) (i j : Nat) : (a.add (i * 2)).add j = a.add (2 * i + j) := by rw [add_add, Nat.mul_comm]
theorem gate_cells : Tryd.prog.cellsOf 72 = 3 := by kernel_rfl
theorem layer_cells : Tryd.prog.cellsOf 35 = 2 := by kernel_rfl
theorem circ_cells : Tryd.prog.cellsOf 24 = 2 := by kernel_rfl
theorem int_cells : Tryd.prog.cellsOf 3 = 1 := by kernel_rfl
theorem bool_cells : Tryd.prog.cellsOf 4 = 1 := by kernel_rfl
theorem gates_cells : Tryd.prog.cellsOf 33 = 1 := by kernel_rfl
theorem layers_cells : Tryd.prog.cellsOf 22 = 1 := by kernel_rfl
theorem cell_spot {w : World} {a : Addr} {u : Value} (h : w.cell? (a.add 0) = some u) : ∃ b off, a = ⟨b, off, none⟩ := by
  obtain ⟨b, off, spot⟩ := a
  have hspot : spot = none := by simpa [Addr.add] using World.cell?_spot h
  subst hspot
  exact ⟨b, off, rfl⟩

section
variable {H : Type} {enc : TypeId × Value → H} {W : World} {base : Nat} {held : Bool}
set_option maxRecDepth 100000 in
theorem gates_of {fuel : Nat} {a : Option Addr} {len cap : Nat} {x : DataW H × List MemPlace}
    (h : DataW.trod enc Tryd.prog W base (fun _ => true) held fuel 33 [Value.slice a len cap] = some x) :
    ∃ gs : List GQ, gs.length = len ∧ len ≤ cap ∧ len ≤ maxLen ∧ GRow W a gs ∧ ∀ g ∈ gs, I64 g.a ∧ I64 g.b := by
  rcases open_slice Tryd.underlying33 h with ⟨hcs, _⟩ | ⟨a', len', cap', m, n, D, Pl, hcs, _, hl, hm, hmm, _, hx⟩
  · simp at hcs
    obtain ⟨rfl, rfl, rfl⟩ := hcs
    exact ⟨[], rfl, Nat.le_refl _, Nat.zero_le _, fun h => absurd rfl h, by simp⟩
  · simp at hcs
    obtain ⟨rfl, rfl, rfl⟩ := hcs
    simp only [if_true] at hmm
    have each : ∀ i, i < len → ∃ g : GQ, W.cell? (a'.add (3 * i)) = some (.bool g.mul) ∧ W.cell? (a'.add (3 * i + 1)) = some (.int .i64 g.a) ∧ W.cell? (a'.add (3 * i + 2)) = some (.int .i64 g.b) ∧ I64 g.a ∧ I64 g.b := by
      intro i hi
      obtain ⟨cs', h1, h2⟩ := hx i (by omega)
      rw [gate_cells] at h1
      obtain ⟨_, hlen, hcell⟩ := World.cells?_some h1
      obtain ⟨y0, y1, y2, k, _, _, g0, g1, g2⟩ := trod_struct3 Tryd.underlying72 h2
      match cs', hlen with
      | [v0, v1, v2], _ =>
        simp [int_cells, bool_cells] at g0 g1 g2
        obtain ⟨b, e0, _⟩ := DataW.trod_bool Tryd.underlying4 g0
        obtain ⟨p, e1, _, r1⟩ := DataW.trod_int Tryd.underlying3 g1
        obtain ⟨q, e2, _, r2⟩ := DataW.trod_int Tryd.underlying3 g2
        simp at e0 e1 e2
        subst e0
        subst e1
        subst e2
        have c0 := hcell 0 (by omega)
        have c1 := hcell 1 (by omega)
        have c2 := hcell 2 (by omega)
        rw [add_three] at c0 c1 c2
        exact ⟨⟨b, p, q⟩, by simpa using c0, by simpa using c1, by simpa using c2, i64_of_wf r1, i64_of_wf r2⟩
    haveI : Inhabited GQ := ⟨⟨false, 0, 0⟩⟩
    obtain ⟨f, hf⟩ := choose_lt each
    have hg : ∀ j g, ((List.range len).map f)[j]? = some g → j < len ∧ g = f j := by
      intro j g e
      by_cases hj : j < len
      · simp [hj] at e; exact ⟨hj, e.symm⟩
      · simp [hj] at e
    refine ⟨(List.range len).map f, by simp, hl, Nat.le_trans hl hm, fun hne => ?_, fun g hg2 => ?_⟩
    · have h0 : 0 < len := by
        rcases Nat.eq_zero_or_pos len with e | e
        · rw [e] at hne; simp at hne
        · exact e
      obtain ⟨b, off, rfl⟩ := cell_spot (by simpa using (hf 0 h0).1)
      refine ⟨b, off, rfl, fun j g e => ?_⟩
      obtain ⟨hj, rfl⟩ := hg j g e
      obtain ⟨c0, c1, c2, _⟩ := hf j hj
      rw [Addr.add_lit] at c0 c1 c2
      exact ⟨c0, c1, c2⟩
    · obtain ⟨j, hj, rfl⟩ := List.mem_map.1 hg2
      exact (hf j (List.mem_range.1 hj)).2.2.2
set_option maxRecDepth 100000 in
theorem layers_of {fuel : Nat} {a : Option Addr} {len cap : Nat} {x : DataW H × List MemPlace}
    (h : DataW.trod enc Tryd.prog W base (fun _ => true) held fuel 22 [Value.slice a len cap] = some x) :
    ∃ (ls : List LQ) (A : Nat → Option Addr) (C : Nat → Nat), ls.length = len ∧ len ≤ cap ∧ cap ≤ maxLen ∧ CRow W a ls A C ∧ ∀ l ∈ ls, I64 l.log ∧ l.gates.length ≤ maxLen ∧ ∀ q ∈ l.gates, I64 q.a ∧ I64 q.b := by
  rcases open_slice Tryd.underlying22 h with ⟨hcs, _⟩ | ⟨a', len', cap', m, n, D, Pl, hcs, _, hl, hm, hmm, _, hx⟩
  · simp at hcs
    obtain ⟨rfl, rfl, rfl⟩ := hcs
    exact ⟨[], fun _ => none, fun _ => 0, rfl, Nat.le_refl _, Nat.zero_le _, fun h => absurd rfl h, by simp⟩
  · simp at hcs
    obtain ⟨rfl, rfl, rfl⟩ := hcs
    simp only [if_true] at hmm
    have each : ∀ i, i < len → ∃ y : LQ × Option Addr × Nat, W.cell? (a'.add (2 * i)) = some (.int .i64 y.1.log) ∧ W.cell? (a'.add (2 * i + 1)) = some (.slice y.2.1 y.1.gates.length y.2.2) ∧ GRow W y.2.1 y.1.gates ∧ y.1.gates.length ≤ y.2.2 ∧
        I64 y.1.log ∧ y.1.gates.length ≤ maxLen ∧ ∀ q ∈ y.1.gates, I64 q.a ∧ I64 q.b := by
      intro i hi
      obtain ⟨cs', h1, h2⟩ := hx i (by omega)
      rw [layer_cells] at h1
      obtain ⟨_, hlen, hcell⟩ := World.cells?_some h1
      obtain ⟨y0, y1, k, _, _, g0, g1⟩ := trod_struct2 Tryd.underlying35 h2
      match cs', hlen with
      | [v0, v1], _ =>
        simp [int_cells, gates_cells] at g0 g1
        obtain ⟨p, e0, _, r0⟩ := DataW.trod_int Tryd.underlying3 g0
        simp at e0
        subst e0
        obtain ⟨ga, gl, gc, rfl⟩ : ∃ ga gl gc, v1 = .slice ga gl gc := by
          rcases open_slice Tryd.underlying33 g1 with ⟨e, _⟩ | ⟨_, _, _, _, _, _, _, e, _⟩
          · simp at e; exact ⟨_, _, _, e⟩
          · simp at e; exact ⟨_, _, _, e⟩
        obtain ⟨gs, e1, e2, e3, e4, e5⟩ := gates_of g1
        have c0 := hcell 0 (by omega)
        have c1 := hcell 1 (by omega)
        rw [add_two] at c0 c1
        exact ⟨(⟨p, gs⟩, ga, gc), by simpa using c0, by simpa [e1] using c1, e4, by rw [e1]; exact e2, i64_of_wf r0, by rw [e1]; exact e3, e5⟩
    haveI : Inhabited (LQ × Option Addr × Nat) := ⟨(⟨0, []⟩, none, 0)⟩
    obtain ⟨f, hf⟩ := choose_lt each
    have hg : ∀ j g, ((List.range len).map fun i => (f i).1)[j]? = some g → j < len ∧ g = (f j).1 := by
      intro j g e
      by_cases hj : j < len
      · simp [hj] at e; exact ⟨hj, e.symm⟩
      · simp [hj] at e
    refine ⟨(List.range len).map fun i => (f i).1, fun i => (f i).2.1, fun i => (f i).2.2, by simp, hl, hm, fun hne => ?_, fun g hg2 => ?_⟩
    · have h0 : 0 < len := by
        rcases Nat.eq_zero_or_pos len with e | e
        · rw [e] at hne; simp at hne
        · exact e
      obtain ⟨b, off, rfl⟩ := cell_spot (by simpa using (hf 0 h0).1)
      refine ⟨b, off, rfl, fun j g e => ?_⟩
      obtain ⟨hj, rfl⟩ := hg j g e
      obtain ⟨c0, c1, c2, c3, _⟩ := hf j hj
      rw [Addr.add_lit] at c0 c1
      exact ⟨c0, c1, c2, c3⟩
    · obtain ⟨j, hj, rfl⟩ := List.mem_map.1 hg2
      exact (hf j (List.mem_range.1 hj)).2.2.2.2
set_option maxRecDepth 100000 in
theorem circ_val {v : Value} {d : DataW H} {p : List MemPlace} (hv : Value.okWide Tryd.prog W .any base 24 v) (h : DataW.Trod enc Tryd.prog W 0 (fun _ => true) true 24 v d p) :
    ∃ g a len cap, v = .agg #[.int .i64 g, .slice a len cap] := by
  obtain ⟨cs, rfl, hs⟩ := okWide_struct Tryd.underlying24 hv
  obtain ⟨fuel, hf⟩ := h
  obtain ⟨y0, y1, k, _, _, g0, g1⟩ := trod_struct2 Tryd.underlying24 hf
  rw [circ_cells] at hs
  obtain ⟨l⟩ := cs
  match l, hs with
  | [v0, v1], _ =>
    simp [Value.cells, int_cells, layers_cells] at g0 g1
    obtain ⟨p, e0, _, _⟩ := DataW.trod_int Tryd.underlying3 g0
    simp at e0
    subst e0
    rcases open_slice Tryd.underlying22 g1 with ⟨e, _⟩ | ⟨_, _, _, _, _, _, _, e, _⟩
    · simp at e; exact ⟨_, _, _, _, by rw [e]⟩
    · simp at e; exact ⟨_, _, _, _, by rw [e]⟩
set_option maxRecDepth 100000 in
theorem circ_of {g : Int} {a : Option Addr} {len cap : Nat} {d : DataW H} {p : List MemPlace} (h : DataW.Trod enc Tryd.prog W 0 (fun _ => true) true 24 (.agg #[.int .i64 g, .slice a len cap]) d p) :
    ∃ c A C, IsCirc W g a len cap c A C := by
  obtain ⟨fuel, hf⟩ := h
  obtain ⟨y0, y1, k, _, _, g0, g1⟩ := trod_struct2 Tryd.underlying24 hf
  simp [Value.cells, int_cells, layers_cells] at g0 g1
  obtain ⟨p, e0, _, r0⟩ := DataW.trod_int Tryd.underlying3 g0
  simp at e0
  subst e0
  obtain ⟨ls, A, C, e1, e2, e3, e4, e5⟩ := layers_of g1
  exact ⟨⟨g, ls⟩, A, C, rfl, i64_of_wf r0, e1, e2, e3, e4, e5⟩
end

end Go.Proofs.YtkhacijkfjcdeaaDoor

/-
  Plain: of a right circuit all numbers are small; the law's own tiny circuit; no program in it.
-/
namespace Go.Proofs.YtkhacijkfjcdeaaDoor
set_option linter.unusedVariables false

theorem pow_le16 {k : Int} (h : k ≤ 4) : 2 ^ k.toNat ≤ 16 := Nat.le_trans (Nat.pow_le_pow_right (by omega) (show k.toNat ≤ 4 by omega)) (Nat.le_refl 16)
theorem layersR_small : ∀ (ls : List LQ) (k : Int), k ≤ 4 → layersR k ls → ∀ l ∈ ls, (0 ≤ l.log ∧ l.log ≤ 4) ∧ l.gates.length ≤ 16 ∧ ∀ q ∈ l.gates, (0 ≤ q.a ∧ q.a < 100) ∧ 0 ≤ q.b ∧ q.b < 100
  | [], _, _, _ => by simp
  | x :: r, k, hk, h => by
    intro l hl
    obtain ⟨⟨hx1, hx2, hx3⟩, hr⟩ := h
    rcases List.mem_cons.1 hl with rfl | hl
    · refine ⟨hx1, by rw [hx2]; exact pow_le16 hx1.2, fun q hq => ?_⟩
      obtain ⟨⟨a0, a1⟩, b0, b1⟩ := hx3 q hq
      have := pow_le16 hk
      exact ⟨⟨a0, by omega⟩, b0, by omega⟩
    · exact layersR_small r x.log hx1.2 hr l hl
theorem right_small {c : CQ} (h : c.right) : ∀ l ∈ c.layers, (0 ≤ l.log ∧ l.log ≤ 4) ∧ l.gates.length ≤ 16 ∧ ∀ q ∈ l.gates, (0 ≤ q.a ∧ q.a < 100) ∧ 0 ≤ q.b ∧ q.b < 100 := layersR_small _ _ h.log.2 h.each
theorem right_fits {c : CQ} (h : c.right) : c.fits := by
  have hs := right_small h
  have hl := h.log
  intro x hx
  rcases List.mem_cons.1 hx with rfl | hx
  · show 0 ≤ c.log ∧ c.log < 100
    omega
  · obtain ⟨l, hl1, hl2⟩ := List.mem_flatMap.1 hx
    obtain ⟨h1, h2, h3⟩ := hs l hl1
    rcases List.mem_cons.1 hl2 with rfl | hl2
    · show 0 ≤ l.log ∧ l.log < 100
      omega
    · obtain ⟨q, hq, rfl⟩ := List.mem_map.1 hl2
      exact h3 q hq
def tinyQ : CQ := ⟨1, [⟨1, [⟨true, 0, 1⟩, ⟨false, 0, 1⟩]⟩]⟩
theorem tiny_right : tinyQ.right := by
  refine ⟨by decide, by decide, by decide, ⟨by decide, by decide, ?_⟩, trivial⟩
  intro q hq
  simp at hq
  rcases hq with rfl | rfl <;> exact ⟨by decide, by decide⟩

end Go.Proofs.YtkhacijkfjcdeaaDoor

/-
  A contract of the laws' own tiny circuit; what it makes is new.
-/
namespace Go.Proofs.YtkhacijkfjcdeaaDoor
open Go.RowKit
set_option linter.unusedVariables false
attribute [local go_sem ↓] Go.wp_at_zero Go.wp_at_succ

theorem results_cell1 {fn : Func} {p : Tmp} {ty : TypeId} (h : fn.results = #[.cell p ty]) (tmps : Array Value) (P : Program) (w : World) :
    (results fn tmps).run P w = ((asAddr (tmps.getD p undef)).run P w).andThen fun a w₁ => (loadVar ty a).run P w₁ := by
  simp only [results, h]
  simp [Sem.run_bind, Result.andThen]
theorem load_circ1 {w : World} {b : Nat} {x0 x1 : Value} (c0 : w.cell? ⟨b, 0, none⟩ = some x0) (c1 : w.cell? ⟨b, 1, none⟩ = some x1) : (loadVar 24 ⟨b, 0, none⟩).run Tryd.prog w = .ok (.agg #[x0, x1]) w := by
  go_simp
theorem results_circ1 {fn : Func} {p : Tmp} (h : fn.results = #[.cell p 24]) {tmps : Array Value} {w : World} {b : Nat} {x0 x1 : Value} (hp : tmps.getD p undef = .pointer (some ⟨b, 0, none⟩)) (c0 : w.cell? ⟨b, 0, none⟩ = some x0) (c1 : w.cell? ⟨b, 1, none⟩ = some x1) :
    (results fn tmps).run Tryd.prog w = .ok (.agg #[x0, x1]) w := by
  rw [results_cell1 h, hp]
  simp [asAddr, Result.andThen, load_circ1 c0 c1]
set_option maxHeartbeats 1000000 in
set_option maxRecDepth 100000 in
theorem tiny_any (w : World) :
    Calls Tryd.prog 62 #[] w fun e w' => ∃ (b : Nat) (A : Nat → Option Addr) (C : Nat → Nat), e = .returned (.agg #[.int .i64 1, .slice (some ⟨b, 0, none⟩) 1 1]) ∧ CRow w' (some ⟨b, 0, none⟩) tinyQ.layers A C ∧ Below w.heap.size w w' := by
  go_enter Tryd.func62, Tryd.ntmps62
  go_wp2_with fail
  refine bodyPost_ret (results_circ1 rfl rfl (by rw [World.cell?_alloc_old _ _ _ (by simp <;> omega), World.cell?_alloc_old _ _ _ (by simp <;> omega), World.cell?_alloc_new]; rfl) (by rw [World.cell?_alloc_old _ _ _ (by simp <;> omega), World.cell?_alloc_old _ _ _ (by simp <;> omega), World.cell?_alloc_new]; rfl)) rfl ?_
  refine ⟨w.heap.size + 1 + 1, fun _ => some ⟨w.heap.size + 1, 0, none⟩, fun _ => 2, rfl, ?_, (((Below.refl w.heap.size w).alloc (Nat.le_refl _) _).alloc (by simp) _).alloc (by simp; omega) _⟩
  generalize hO1 : Obj.cells #[Value.int .i64 1, .slice (some ⟨w.heap.size + 1 + 1, 0, none⟩) 1 1] 24 = o1
  have s1 : (w.alloc o1).heap.size = w.heap.size + 1 := by simp
  generalize w.alloc o1 = w1 at s1 ⊢
  generalize hO2 : Obj.cells #[Value.bool true, .int .i64 0, .int .i64 1, .bool false, .int .i64 0, .int .i64 1] 72 = o2
  have s2 : (w1.alloc o2).heap.size = w.heap.size + 1 + 1 := by simp [s1]
  have g : ∀ j, (w1.alloc o2).cell? ⟨w.heap.size + 1, j, none⟩ = (#[Value.bool true, .int .i64 0, .int .i64 1, .bool false, .int .i64 0, .int .i64 1] : Array Value)[j]? := fun j => by
    rw [← hO2, ← s1, World.cell?_alloc_new]
  generalize w1.alloc o2 = w2 at s2 g ⊢
  have hl : ∀ j, (w2.alloc (Obj.cells #[Value.int .i64 1, .slice (some ⟨w.heap.size + 1, 0, none⟩) 2 2] 35)).cell? ⟨w.heap.size + 1 + 1, j, none⟩ = (#[Value.int .i64 1, .slice (some ⟨w.heap.size + 1, 0, none⟩) 2 2] : Array Value)[j]? := fun j => by
    rw [← s2, World.cell?_alloc_new]
  have g' : ∀ j o, (w2.alloc o).cell? ⟨w.heap.size + 1, j, none⟩ = (#[Value.bool true, .int .i64 0, .int .i64 1, .bool false, .int .i64 0, .int .i64 1] : Array Value)[j]? := fun j o => by
    rw [World.cell?_alloc_old _ _ _ (by show w.heap.size + 1 ≠ w2.heap.size; omega)]; exact g j
  intro _
  refine ⟨_, _, rfl, fun i l hi => ?_⟩
  match i, hi with
  | 0, hi =>
    obtain rfl : (⟨1, [⟨true, 0, 1⟩, ⟨false, 0, 1⟩]⟩ : LQ) = l := by simpa [tinyQ] using hi
    refine ⟨(hl 0).trans rfl, (hl 1).trans rfl, fun _ => ⟨_, _, rfl, fun j q hq => ?_⟩, Nat.le_refl 2⟩
    match j, hq with
    | 0, hq =>
      obtain rfl : (⟨true, 0, 1⟩ : GQ) = q := by simpa using hq
      exact ⟨(g' 0 _).trans rfl, (g' 1 _).trans rfl, (g' 2 _).trans rfl⟩
    | 1, hq =>
      obtain rfl : (⟨false, 0, 1⟩ : GQ) = q := by simpa using hq
      exact ⟨(g' 3 _).trans rfl, (g' 4 _).trans rfl, (g' 5 _).trans rfl⟩
    | j + 2, hq => simp at hq
  | i + 1, hi => simp [tinyQ] at hi

end Go.Proofs.YtkhacijkfjcdeaaDoor

/-
  Contracts of tallyref's Rest, and of tallykeep's table and point: a new row with a list's first numbers, the rest 0; nothing that was there is written.
-/
namespace Go.Proofs.YtkhacijkfjcdeaaDoor
open Go.RowKit
set_option linter.unusedVariables false


/-- A list's first n numbers, 0 behind them. -/
def padF (n : Nat) (f : Nat → Int) (j : Nat) : Int := if j < n then f j else 0
theorem Nums_pad {f : Nat → Int} (hf : Nums f) (n : Nat) : Nums (padF n f) := fun j => by
  unfold padF
  split
  · exact hf j
  · omega
theorem made_zero (n : Nat) : madeCells #[.int .u64 0] n = (cellsOf n (fun _ => 0)).toArray := by
  apply Array.ext_getElem?
  intro j
  by_cases h : j < n
  · simp [madeCells, cellsOf, h, Nat.mod_one]
  · simp [madeCells, cellsOf, h]
theorem splice_pad (n m : Nat) (f : Nat → Int) (h : m ≤ n) : splice (cellsOf n (fun _ => 0)) 0 (cellsOf m f) = cellsOf n (padF m f) := by
  unfold splice
  rw [List.take_zero, List.nil_append, Nat.zero_add, cellsOf_len]
  apply List.ext_getElem?
  intro j
  by_cases h1 : j < m
  · rw [List.getElem?_append_left (by rw [cellsOf_len]; exact h1), cellsOf_at m f j h1, cellsOf_at n _ j (by omega), padF, if_pos h1]
  · rw [List.getElem?_append_right (by rw [cellsOf_len]; omega), cellsOf_len, List.getElem?_drop, show m + (j - m) = j from by omega]
    by_cases h2 : j < n
    · rw [cellsOf_at n _ j h2, cellsOf_at n _ j h2, padF, if_neg h1]
    · rw [cellsOf_past n _ j (by omega), cellsOf_past n _ j (by omega)]
theorem made_of_heap {w w' : World} {n : Nat} {f : Nat → Int} {t : TypeId} (hb : Below w.heap.size w w') (hh : w'.heap[w.heap.size]? = some (.cells (cellsOf n f).toArray t (0, 0))) : Made w w' n f := by
  refine ⟨hb, fun j hj => ?_, fun j hj => ?_⟩
  · unfold World.cell?
    simp [hh, cellsOf_at n f j hj]
  · unfold World.frozen?
    simp [hh]

theorem sizeN : (Tryd.prog.info? 45).map (·.size) = some 1 := by kernel_rfl
theorem pad_min (la n : Nat) (f : Nat → Int) (j : Nat) (hj : j < n) : padF (Nat.min la n) f j = padF la f j := by
  have e : Nat.min la n = min la n := rfl
  unfold padF
  rw [e]
  by_cases h : j < la
  · rw [if_pos (by omega), if_pos h]
  · rw [if_neg (by omega), if_neg h]
theorem src_cells {w : World} {ao : Option Addr} {la m : Nat} {f : Nat → Int} (hp : PRow w ao la f) (hm : m ≤ la) (h0 : 0 < (cellsOf m f).length) : ∃ ad, ao = some ad ∧ ∀ j v, (cellsOf m f)[j]? = some v → w.cell? (ad.add j) = some v := by
  rw [cellsOf_len] at h0
  obtain ⟨b, off, rfl, hr⟩ := hp (by omega)
  exact ⟨_, rfl, row_cells fun j hj => hr j (by omega)⟩

set_option maxHeartbeats 1000000 in
set_option maxRecDepth 100000 in
theorem point_any (ao : Option Addr) (la ca n : Nat) (f : Nat → Int) (w : World) (hn : n ≤ 1000) (hp : PRow w ao la f) :
    Calls Tryd.prog 26 #[.slice ao la ca, .int .i64 (n : Int)] w fun e w' => e = .returned (.slice (some ⟨w.heap.size, 0, none⟩) n n) ∧ Made w w' n (padF la f) := by
  have HP := hid (hp.kept (w' := w.alloc (.cells (madeCells #[.int .u64 0] n) 45)) ((Below.refl _ w).alloc (Nat.le_refl _) _))
  have HB := hid ((Below.refl w.heap.size w).alloc (Nat.le_refl _) (.cells (madeCells #[.int .u64 0] n) 45))
  have HH : Hid ((w.alloc (.cells (madeCells #[.int .u64 0] n) 45)).heap[w.heap.size]? = some (.cells (cellsOf n (fun _ => 0)).toArray 45 (0, 0))) := hid (by rw [made_zero]; exact (MapKept.heap_alloc _ _).1)
  have hmk := run_make_row' (P := Tryd.prog) 25 45 (.int .u64 0) 8 Tryd.underlying25 Tryd.infoO rfl .i64 .i64 n (by omega) (by omega)
  clear hp
  go_enter Tryd.func26, Tryd.ntmps26
  go_wp2_with (with_reducible (show wpList _ _ _ ({ dst := _, op := Op.call { callee := Callee.builtin Builtin.copy, args := _, argTypes := _ }, type := _, pos := _, after := _, guard := _ } :: _) _ _); refine wpList_copy_splice rfl _ _ 25 25 rfl 45 Tryd.underlying25 sizeN _ _ _ _ _ _ rfl rfl w.heap.size 0 (cellsOf n (fun _ => 0)) 45 HH.out (cellsOf (Nat.min la n) f) ?q1 ?q2 ?q3 ?q4 w.heap.size w HB.out (Nat.le_refl _) ?_)
  case q1 => exact cellsOf_len _ _
  case q2 => exact fun h0 => src_cells HP.out (Nat.min_le_left _ _) h0
  case q3 => rw [cellsOf_len, cellsOf_len]; have : Nat.min la n ≤ n := Nat.min_le_right _ _; omega
  case q4 => exact cellsOf_one _ _
  intro w1 hh hb
  have HM := hid ((made_of_heap hb (by rw [← splice_pad n (Nat.min la n) f (Nat.min_le_right _ _)]; exact hh.out)).congr fun j hj => pad_min la n f j hj)
  clear hh hb hmk
  go_wp2_with fail
  go_ret
  exact ⟨rfl, HM.out⟩

theorem shl_two {r : Nat} (hr : r ≤ 8) : wrap64 ((2 : Int) ^ r) = ((2 ^ r : Nat) : Int) := by
  have h : 2 ^ r ≤ 256 := Nat.pow_le_pow_right (j := 8) (by omega) hr
  rw [show ((2 : Int) ^ r) = ((2 ^ r : Nat) : Int) from by simp]
  generalize 2 ^ r = M at h
  exact IntWalk.wrap64_in _ (by omega)
end Go.Proofs.YtkhacijkfjcdeaaDoor

/-
  The right proof holds for just the outputs that have the circuit's value at the point that was drawn; contracts of the laws' own small and held.
-/
namespace Go.Proofs.YtkhacijkfjcdeaaDoor
open Go.RowKit
set_option linter.unusedVariables false
attribute [local go_sem ↓] Go.wp_at_zero Go.wp_at_succ

theorem right_iff {c : CQ} (hc : c.right) (f D fo : Nat → Int) :
    (partsQ c).holds D (rightP c f D).told (ofK (evS (fun j => kk (fo j)) (fun j => kk (D j)) ((partsQ c).lg 0))) (fun j => kk (f j)) ↔ evS (fun j => kk (fo j)) (fun j => kk (D j)) ((partsQ c).lg 0) = evS (fun j => kk (valsQ c f c.layers.length j)) (fun j => kk (D j)) ((partsQ c).lg 0) := by
  have n1 : 0 < (partsQ c).n := List.length_pos_iff.2 hc.some
  rw [rightP_told, Parts.right_holds (partsQ c) D _ _ (parts_fits hc) (parts_run hc f) (fun j => by have := parts_lg hc j; omega) n1]
  have h1 : (partsQ c).tru (valsK c f) D 0 = evS (fun j => kk (valsQ c f c.layers.length j)) (fun j => kk (D j)) ((partsQ c).lg 0) := rfl
  have h2 : (partsQ c).tru (valsK c f) D (partsQ c).n = evS (fun j => kk (f j)) ((partsQ c).z D (partsQ c).n) ((partsQ c).lg (partsQ c).n) := by
    refine evS_congr _ (fun b _ => ?_) (fun _ _ => rfl)
    show kk (valsQ c f (c.layers.length - c.layers.length) b) = _
    rw [Nat.sub_self]
    show kk (nrm (f b)) = kk (f b)
    exact kk_nrm _
  rw [h1, h2]
  constructor
  · rintro ⟨h, _⟩
    have := congrArg kk h
    rwa [kk_ofK, kk_ofK] at this
  · intro h
    exact ⟨by rw [h], rfl⟩
/-- A list of two numbers. -/
def pr (a b : Int) (j : Nat) : Int := if j = 0 then a else b
theorem Nums_pr {a b : Int} (h0 : 0 ≤ a) (h1 : a ≤ 18446744073709551615) (h2 : 0 ≤ b) (h3 : b ≤ 18446744073709551615) : Nums (pr a b) := fun j => by
  unfold pr
  split <;> omega
def dr4 (j : Nat) : Int := if j = 0 then 5 else if j = 1 then 6 else if j = 2 then 7 else 8
theorem Nums_dr4 : Nums dr4 := fun j => by
  unfold dr4
  repeat' split
  all_goals omega
theorem tiny_need : needQ tinyQ = 4 := by decide
theorem tiny_lg : (partsQ tinyQ).lg 0 = 1 := by decide
theorem tiny_ends : endsQ tinyQ 2 2 := by unfold endsQ; decide
theorem ev_one (f g : Nat → K) : evS f g 1 = f 0 + g 0 * (f 1 - f 0) := by
  rw [show (1 : Nat) = 0 + 1 from rfl, evS_fold, evS_zero]; rfl
theorem tiny_yes : (partsQ tinyQ).holds dr4 (rightP tinyQ (pr 3 4) dr4).told (ofK (evS (fun j => kk (pr 12 7 j)) (fun j => kk (dr4 j)) ((partsQ tinyQ).lg 0))) (fun j => kk (pr 3 4 j)) := by
  rw [right_iff tiny_right, tiny_lg, ev_one, ev_one]
  kernel_rfl
theorem tiny_no : ¬ (partsQ tinyQ).holds dr4 (rightP tinyQ (pr 3 4) dr4).told (ofK (evS (fun j => kk (pr 12 8 j)) (fun j => kk (dr4 j)) ((partsQ tinyQ).lg 0))) (fun j => kk (pr 3 4 j)) := by
  rw [right_iff tiny_right, tiny_lg, ev_one, ev_one]
  intro h
  have h2 := congrArg Fin.val h
  revert h2
  decide
set_option maxHeartbeats 2000000 in
set_option maxRecDepth 100000 in
theorem small_any (c : CQ) (g : Int) (ao : Option Addr) (n cap : Nat) (A : Nat → Option Addr) (C : Nat → Nat) (w : World) (hn63 : n ≤ maxLen) (hg : c.log = g) (hn : c.layers.length = n) (hr : CRow w ao c.layers A C) :
    Calls Tryd.prog 25 #[.agg #[.int .i64 g, .slice ao n cap]] w fun e w' => ∃ r : Bool, e = .returned (.bool r) ∧ (r = true → c.right) ∧ Below w.heap.size w w' := by
  have HS0 := hid (StW.start w g (.slice ao n cap) 24)
  have HC := hid (fun W (h : Below w.heap.size w W) => rcirc_any c g ao n cap A C W hg hn (hr.kept h))
  have HR := hid hr
  have HN := hid hn
  have n63 : (n : Int) ≤ 9223372036854775807 := by have : maxLen ≤ 9223372036854775807 := by decide
                                                   omega
  clear hg hn hr hn63
  go_enter Tryd.func25, Tryd.ntmps25
  go_wp2_with fail
  obtain ⟨B, hB⟩ : ∃ B, w.heap.size = B := ⟨_, rfl⟩
  rw [hB] at HS0
  rw [hB]
  clear hB
  generalize w.alloc (.cells #[.int .i64 g, .slice ao n cap] 24) = W1 at HS0 ⊢
  go_loopg [8] n (fun q i wr => ∃ t : Nat, t ≤ n ∧ q = n - t ∧ i = .int .i64 (t : Int) ∧ Hid (StW w wr B g (.slice ao n cap)))
  case atStart => exact ⟨0, by omega, rfl, rfl, HS0⟩
  case round =>
    clear HS0
    obtain ⟨t, htn, rfl, rfl, HS⟩ := hrel
    by_cases htl : t < n
    · obtain ⟨l, hl⟩ : ∃ l, c.layers[t]? = some l := ⟨c.layers[t]'(by rw [HN.out]; exact htl), by simp⟩
      obtain ⟨b, off, rfl, hcc⟩ := HR.out.kept HS.out.bel (by intro e; have := HN.out; rw [e] at this; simp at this; omega)
      obtain ⟨x0, x1, _, _⟩ := hcc t l hl
      rw [Nat.mul_comm 2 t] at x0 x1
      obtain ⟨lg, hlg⟩ : ∃ x, l.log = x := ⟨_, rfl⟩
      rw [hlg] at x0
      have t0 : (0 : Int) ≤ (t : Int) := by omega
      have t1 : (t : Int) < (n : Int) := by omega
      have HAL := hid (fun v => HS.out.next ((Below.refl wr.heap.size wr).alloc (Nat.le_refl _) (.cells #[.int .i64 lg, v] 35)))
      clear hcc hl hlg
      by_cases h2 : (2 : Int) < lg
      · go_wp2_with fail
        go_ret
        exact ⟨false, rfl, fun h => absurd h Bool.false_ne_true, (HAL.out _).bel⟩
      · go_wp2_with fail
        go_roundg (n - (t + 1))
        case measure => go_light; omega
        case rel => exact ⟨t + 1, by omega, rfl, by go_num, hid (HAL.out _)⟩
    · have t1 : ¬ ((t : Int) < (n : Int)) := by omega
      obtain ⟨z0, z1, zl⟩ := HS.out.box
      go_wp2_with fail
      refine (HC.out _ HS.out.bel).mono ?_
      rintro e w1 ⟨y, rfl, hy, hb⟩
      have HS1 := hid (HS.out.next hb)
      have HY := hid hy
      clear hb hy z0 z1 zl HS
      obtain ⟨z0, z1, zl⟩ := HS1.out.box
      by_cases hy0 : y = 0
      · subst hy0
        have HRT := hid (checkE_zero.1 HY.out)
        go_wp2_with fail
        go_ret
        exact ⟨_, rfl, fun _ => HRT.out, HS1.out.bel⟩
      · have e1 : (y == 0) = false := beq_eq_false_iff_ne.2 hy0
        go_wp2_with fail
        go_ret
        exact ⟨false, rfl, fun h => absurd h Bool.false_ne_true, HS1.out.bel⟩
/-- Below a world that grew, step by step. -/
theorem bel_alloc {X Y : World} (o : Obj) (h : Below X.heap.size X Y) : Below X.heap.size X (Y.alloc o) := h.alloc h.size o
theorem bel_trans {X Y Z : World} (hz : Below Y.heap.size Y Z) (h : Below X.heap.size X Y) : Below X.heap.size X Z := h.trans (hz.mono h.size)
theorem bel_drew {X Y : World} (h : Below X.heap.size X Y) : Below X.heap.size X Y.drew := h.drew
theorem row_pair (w : World) (x y : Int) (t : TypeId) : Row (w.alloc (.cells #[.int .u64 x, .int .u64 y] t)) w.heap.size 0 2 (pr x y) := fun j hj => by
  rw [Nat.zero_add, World.cell?_alloc_new]
  match j, hj with
  | 0, _ => rfl
  | 1, _ => rfl
theorem row_new2 {w : World} {n : Nat} {x y : Int} {t : TypeId} (h : n = w.heap.size) : Row (w.alloc (.cells #[.int .u64 x, .int .u64 y] t)) n 0 2 (pr x y) := by
  subst h
  exact row_pair w x y t
theorem row_old2 {w : World} {n : Nat} {f : Nat → Int} (o : Obj) (h : Row w n 0 2 f) : Row (w.alloc o) n 0 2 f := h.kept (bel_alloc o (Below.refl _ w)) (h.lt (by omega))
theorem row_bel2 {Y Z : World} {n : Nat} {f : Nat → Int} (hb : Below Y.heap.size Y Z) (h : Row Y n 0 2 f) : Row Z n 0 2 f := h.kept hb (h.lt (by omega))
theorem crow_old {w : World} {ao : Option Addr} {ls : List LQ} {A : Nat → Option Addr} {C : Nat → Nat} (o : Obj) (h : CRow w ao ls A C) : CRow (w.alloc o) ao ls A C := h.kept (bel_alloc o (Below.refl _ w))
theorem keep_cell {W W' : World} {a : Addr} {v : Value} (h : W.cell? a = some v) (hb : Below W.heap.size W W') : W'.cell? a = some v := (hb.cell (World.block_lt_of_cell? W _ h)).trans h
theorem row_four (w : World) (t : TypeId) : Row (w.alloc (.cells #[.int .u64 5, .int .u64 6, .int .u64 7, .int .u64 8] t)) w.heap.size 0 4 dr4 := fun j hj => by
  rw [Nat.zero_add, World.cell?_alloc_new]
  match j, hj with
  | 0, _ => rfl
  | 1, _ => rfl
  | 2, _ => rfl
  | 3, _ => rfl
set_option maxHeartbeats 8000000 in
set_option maxRecDepth 100000 in
theorem held_any (w : World) (ht : Tab w) :
    Calls Tryd.prog 24 #[] w fun e w' => e = .returned (.bool true) ∧ Below w.heap.size w w' := by
  have HT := hid ht
  clear ht
  go_enter Tryd.func24, Tryd.ntmps24
  go_wp2_with fail
  refine (tiny_any w).mono ?_
  rintro e w1 ⟨b1, A1, C1, rfl, hc1, hb1⟩
  go_wp2_with fail
  refine (draws_ok tinyQ 1 b1 0 1 1 A1 C1 w1 rfl rfl hc1 tiny_right).mono ?_
  rintro e w2 ⟨rfl, hb2⟩
  have HB2 := hid (bel_trans hb2 hb1)
  clear hc1 hb1 hb2
  go_wp2_with fail
  rw [tiny_need]
  refine (tiny_any _).mono ?_
  rintro e w3 ⟨b3, A3, C3, rfl, hc3, hb3⟩
  have HD3 : Hid (Row w3 w2.heap.size 0 4 dr4 ∧ w2.heap.size < w3.heap.size) := hid (by
    have h := (row_four w2 45).kept hb3 (by simp)
    exact ⟨h, h.lt (by omega)⟩)
  have HB3 := hid (bel_trans hb3 (bel_alloc _ HB2.out))
  have HC3 := hid hc3
  clear hc3 hb3 HB2
  obtain ⟨BD, hBD⟩ : ∃ x, w2.heap.size = x := ⟨_, rfl⟩
  rw [hBD] at HD3
  rw [hBD]
  clear hBD
  go_wp2_with fail
  have HPV : Hid (Calls Tryd.prog 29 #[.agg #[.int .i64 1, .slice (some ⟨b3, 0, none⟩) 1 1], .slice (some ⟨w3.heap.size, 0, none⟩) 2 2, .slice (some ⟨BD, 0, none⟩) 4 4] (w3.alloc (.cells #[.int .u64 3, .int .u64 4] 45)) fun e w' => proveOut tinyQ (pr 3 4) dr4 1 (w3.alloc (.cells #[.int .u64 3, .int .u64 4] 45)) e w') := hid (by
    have hal := (Below.refl w3.heap.size w3).alloc (Nat.le_refl _) (.cells #[.int .u64 3, .int .u64 4] 45)
    have hbw := bel_trans hal HB3.out
    exact pv_ok tinyQ 1 b3 0 1 1 A3 C3 w3.heap.size 0 2 2 (pr 3 4) BD 0 4 4 dr4 _ rfl rfl (HC3.out.kept hal) tiny_right (shl_pow (k := 1) (by omega)) (by decide) (row_pair w3 3 4 _) (Nums_pr (by omega) (by omega) (by omega) (by omega)) (HD3.out.1.kept hal HD3.out.2) Nums_dr4 tiny_need.symm (by omega) (by decide) (HT.out.kept hbw HT.out.1))
  refine (HPV.out).mono ?_
  rintro e w4 ⟨PB, m, rfl, hpf, hlow, hb4⟩
  have HB4 := hid (bel_trans hb4 (bel_alloc _ HB3.out))
  have HD4 : Hid (Row w4 BD 0 4 dr4 ∧ BD < w4.heap.size) := hid (by
    have hal := bel_trans hb4 ((Below.refl w3.heap.size w3).alloc (Nat.le_refl _) (.cells #[.int .u64 3, .int .u64 4] 45))
    exact ⟨HD3.out.1.kept hal HD3.out.2, Nat.lt_of_lt_of_le HD3.out.2 hal.size⟩)
  have HPF := hid hpf
  clear hpf hlow hb4 HB3 HD3 HC3 HPV
  go_wp2_with fail
  have hal := (Below.refl w4.heap.size w4).alloc (Nat.le_refl _) (.cells #[.slice (some ⟨PB, 0, none⟩) 1 1] 28)
  have HB5 := hid (bel_trans hal HB4.out)
  have HD5 : Hid (Row (w4.alloc (.cells #[.slice (some ⟨PB, 0, none⟩) 1 1] 28)) BD 0 4 dr4 ∧ BD < (w4.alloc (.cells #[.slice (some ⟨PB, 0, none⟩) 1 1] 28)).heap.size) := hid ⟨HD4.out.1.kept hal HD4.out.2, Nat.lt_of_lt_of_le HD4.out.2 hal.size⟩
  have HP5 := hid (HPF.out.kept hal)
  have HQ5 : Hid ((w4.alloc (.cells #[.slice (some ⟨PB, 0, none⟩) 1 1] 28)).cell? ⟨w4.heap.size, 0, none⟩ = some (.slice (some ⟨PB, 0, none⟩) 1 1)) := hid (by rw [World.cell?_alloc_new]; rfl)
  obtain ⟨Q, hQ⟩ : ∃ x, w4.heap.size = x := ⟨_, rfl⟩
  rw [hQ] at HQ5
  rw [hQ]
  clear hQ hal HB4 HD4 HPF
  generalize w4.alloc (.cells #[.slice (some ⟨PB, 0, none⟩) 1 1] 28) = W5 at HB5 HD5 HP5 HQ5 ⊢
  have HV : Hid (∀ (q : Int) (r : Bool) (W' : World) (x1 x2 bT : Nat) (A : Nat → Option Addr) (C : Nat → Nat), (q = 7 ∧ r = true ∨ q = 8 ∧ r = false) → CRow W' (some ⟨bT, 0, none⟩) tinyQ.layers A C → Row W' x1 0 2 (pr 3 4) → Row W' x2 0 2 (pr 12 q) → Below W5.heap.size W5 W' → Calls Tryd.prog 12 #[.agg #[.int .i64 1, .slice (some ⟨bT, 0, none⟩) 1 1], .slice (some ⟨x1, 0, none⟩) 2 2, .slice (some ⟨x2, 0, none⟩) 2 2, .agg #[.slice (some ⟨PB, 0, none⟩) 1 1], .slice (some ⟨BD, 0, none⟩) 4 4] W' fun e w'' => e = .returned (.tuple #[.bool r, .int .i64 0]) ∧ Below W5.heap.size W5 w'') := hid (fun q r W' x1 x2 bT A C hq hcr h1 h2 hb => by
    have hq2 : 0 ≤ q ∧ q ≤ 18446744073709551615 := by rcases hq with ⟨h, _⟩ | ⟨h, _⟩ <;> omega
    refine (vf_ok tinyQ 1 bT 0 1 1 A C x1 0 2 2 x2 0 2 2 (pr 3 4) (pr 12 q) (some ⟨PB, 0, none⟩) 1 1 (rightP tinyQ (pr 3 4) dr4) m BD 0 4 4 dr4 W' rfl rfl hcr tiny_right rfl (HP5.out.kept hb) (rightP_nums _ _ _) (rightP_shaped _ _ _) tiny_ends h1 (Nums_pr (by omega) (by omega) (by omega) (by omega)) h2 (Nums_pr (by omega) (by omega) hq2.1 hq2.2) (HD5.out.1.kept hb HD5.out.2) Nums_dr4 tiny_need.symm (by omega) (by decide) (HT.out.kept (bel_trans hb HB5.out) HT.out.1)).mono ?_
    rintro e w'' ⟨r', rfl, hr', hb'⟩
    refine ⟨?_, bel_trans hb' hb⟩
    rcases hq with ⟨rfl, rfl⟩ | ⟨rfl, rfl⟩
    · rw [hr'.2 tiny_yes]
    · cases r' with
      | false => rfl
      | true => exact absurd (hr'.1 rfl) tiny_no)
  have hq := HQ5.out
  have HBS := hid (Below.refl W5.heap.size W5)
  clear HD5 HP5 HQ5
  go_cut [6, 7] (fun a6 a7 wx => a6 = .bool true ∧ a7 = .int .i64 0 ∧ Hid (Below W5.heap.size W5 wx))
  case first =>
    go_region_held3 (fun W => W.cell? ⟨Q, 0, none⟩ = some (.slice (some ⟨PB, 0, none⟩) 1 1)) (first | assumption | (refine keep_cell hq ?_; repeat (first | exact HBS.out | exact hbV | apply bel_alloc | refine bel_trans hbT ?_ | apply bel_drew))) (first
      | (go_at_call 62; refine (tiny_any _).mono ?_; rintro e wT ⟨bT, AT, CT, rfl, hcT, hbT⟩)
      | (go_at_call 12; refine (HV.out 7 true _ _ _ _ AT CT (.inl ⟨rfl, rfl⟩) (by repeat (first | exact hcT | apply crow_old)) (by repeat (first | exact row_new2 (by simp) | apply row_old2 | refine row_bel2 hbT ?_)) (by repeat (first | exact row_new2 (by simp) | apply row_old2 | refine row_bel2 hbT ?_)) (by repeat (first | exact HBS.out | apply bel_alloc | refine bel_trans hbT ?_ | apply bel_drew))).mono ?_; rintro e wV ⟨rfl, hbV⟩))
    all_goals (go_wp2_with fail)
    all_goals go_meet
    all_goals exact ⟨rfl, rfl, hid hbV⟩
  case rest =>
    clear HBS
    obtain ⟨rfl, rfl, HBS⟩ := hcut
    go_wp2_with fail
    go_cut [8, 9] (fun a8 a9 wx => a8 = .bool false ∧ a9 = .int .i64 0 ∧ Hid (Below W5.heap.size W5 wx))
    case first =>
      go_region_held3 (fun W => W.cell? ⟨Q, 0, none⟩ = some (.slice (some ⟨PB, 0, none⟩) 1 1)) (first | assumption | (refine keep_cell hq ?_; repeat (first | exact HBS.out | exact hbV | apply bel_alloc | refine bel_trans hbT ?_ | apply bel_drew))) (first
        | (go_at_call 62; refine (tiny_any _).mono ?_; rintro e wT ⟨bT, AT, CT, rfl, hcT, hbT⟩)
        | (go_at_call 12; refine (HV.out 8 false _ _ _ _ AT CT (.inr ⟨rfl, rfl⟩) (by repeat (first | exact hcT | apply crow_old)) (by repeat (first | exact row_new2 (by simp) | apply row_old2 | refine row_bel2 hbT ?_)) (by repeat (first | exact row_new2 (by simp) | apply row_old2 | refine row_bel2 hbT ?_)) (by repeat (first | exact HBS.out | apply bel_alloc | refine bel_trans hbT ?_ | apply bel_drew))).mono ?_; rintro e wV ⟨rfl, hbV⟩))
      all_goals (go_wp2_with fail)
      all_goals go_meet
      all_goals exact ⟨rfl, rfl, hid hbV⟩
    case rest =>
      clear HBS
      obtain ⟨rfl, rfl, HBS⟩ := hcut
      go_wp2_with fail
      go_ret
      exact ⟨rfl, bel_trans HBS.out HB5.out⟩

end Go.Proofs.YtkhacijkfjcdeaaDoor

/-
  A contract of the law GkrComplete, for every circuit and all lists: it answers true.
-/
namespace Go.Proofs.YtkhacijkfjcdeaaDoor
open Go.RowKit
set_option linter.unusedVariables false
attribute [local go_sem ↓] Go.wp_at_zero Go.wp_at_succ

/-- The four cells that the last call reads. -/
abbrev FourC (X V n Q : Nat) (u v d p : Value) (W : World) : Prop := W.cell? ⟨X, 0, none⟩ = some u ∧ W.cell? ⟨X, 1, none⟩ = some v ∧ W.cell? ⟨V, n, none⟩ = some d ∧ W.cell? ⟨Q, 0, none⟩ = some p
theorem FourC.kept {X V n Q : Nat} {u v d p : Value} {W W' : World} (h : FourC X V n Q u v d p W) (hb : Below W.heap.size W W') : FourC X V n Q u v d p W' := ⟨keep_cell h.1 hb, keep_cell h.2.1 hb, keep_cell h.2.2.1 hb, keep_cell h.2.2.2 hb⟩

set_option maxHeartbeats 8000000 in
set_option maxRecDepth 100000 in
theorem gcomp_any (c : CQ) (g : Int) (ao : Option Addr) (n cap : Nat) (A : Nat → Option Addr) (C : Nat → Nat) (ai ad : Option Addr) (ni ci nd cd : Nat) (fi fd : Nat → Int) (w : World) (ht : Tab w) (hn63 : n ≤ maxLen) (hg : c.log = g) (hn : c.layers.length = n) (hr : CRow w ao c.layers A C) (hi : PRow w ai ni fi) (vi : Nums fi) (hd : PRow w ad nd fd) (vd : Nums fd) :
    Calls Tryd.prog 6 #[.agg #[.int .i64 g, .slice ao n cap], .slice ai ni ci, .slice ad nd cd] w fun e w' => e = .returned (.bool true) ∧ Below w.heap.size w w' := by
  have HS0 := hid (StW.start w g (.slice ao n cap) 24)
  have HHE := hid (fun W (h : Below w.heap.size w W) => held_any W (ht.kept h ht.1))
  have HSM := hid (fun W (h : Below w.heap.size w W) => small_any c g ao n cap A C W hn63 hg hn (hr.kept h))
  have HR := hid hr
  have HG := hid hg
  have HN := hid hn
  have HT := hid ht
  have HI := hid (And.intro hi vi)
  have HD := hid (And.intro hd vd)
  clear hr hg hn ht hi vi hd vd hn63
  go_enter Tryd.func6, Tryd.ntmps6
  go_wp2_with fail
  obtain ⟨X, hX⟩ : ∃ X, w.heap.size = X := ⟨_, rfl⟩
  rw [hX] at HS0
  rw [hX]
  clear hX
  generalize w.alloc (.cells #[.int .i64 g, .slice ao n cap] 24) = W0 at HS0 ⊢
  refine (HHE.out _ HS0.out.bel).mono ?_
  rintro e w1 ⟨rfl, hb⟩
  have HS1 := hid (HS0.out.next hb)
  clear hb HS0 HHE
  obtain ⟨z0, z1, zl⟩ := HS1.out.box
  go_wp2_with fail
  refine (HSM.out _ HS1.out.bel).mono ?_
  rintro e w2 ⟨r, rfl, hrt, hb⟩
  have HS2 := hid (HS1.out.next hb)
  clear hb HS1 z0 z1 zl HSM
  cases r with
  | false =>
    clear hrt
    go_wp2_with fail
    go_ret
    exact ⟨rfl, HS2.out.bel⟩
  | true =>
    have HC := hid (hrt rfl)
    clear hrt
    obtain ⟨b, off, rfl⟩ := right_addr HC.out HR.out
    obtain ⟨gn, N, rfl, gn4, sh, hN, N1, N16, hNk⟩ := right_nums HG.out HN.out HC.out
    have HNN := hid (And.intro hN hNk)
    have n4 : n ≤ 4 := by have := HC.out.few; have := HN.out; omega
    obtain ⟨q, hq⟩ : ∃ q, needQ c = q := ⟨_, rfl⟩
    have q40 : q ≤ 40 := by rw [← hq]; exact needQ_le HC.out
    have HQ := hid hq
    have HSH := hid sh
    clear hN hNk hq
    obtain ⟨z0, z1, zl⟩ := HS2.out.box
    have gn0 : (0 : Int) ≤ (gn : Int) := by omega
    go_wp2_with fail
    rw [HSH.out]
    refine (point_any ai ni ci N fi w2 (by omega) (HI.out.1.kept HS2.out.bel)).mono ?_
    rintro e w3 ⟨rfl, hm⟩
    have HS3 := hid (HS2.out.next hm.below)
    have HXR : Hid (Row w3 w2.heap.size 0 N (padF ni fi)) := hid hm.row
    obtain ⟨BX, hBX⟩ : ∃ x, w2.heap.size = x := ⟨_, rfl⟩
    rw [hBX] at HXR
    rw [hBX]
    clear hm hBX HS2 z0 z1 zl
    obtain ⟨z0, z1, zl⟩ := HS3.out.box
    go_wp2_with fail
    refine (draws_ok c gn b off n cap A C w3 HG.out HN.out (HR.out.kept HS3.out.bel) HC.out).mono ?_
    rintro e w4 ⟨rfl, hb⟩
    rw [HQ.out]
    have HS4 := hid (HS3.out.next hb)
    have HX4 := hid (HXR.out.kept hb (HXR.out.lt N1))
    clear hb HS3 HXR z0 z1 zl
    go_wp2_with fail
    refine (point_any ad nd cd q fd w4 (by omega) (HD.out.1.kept HS4.out.bel)).mono ?_
    rintro e w5 ⟨rfl, hm⟩
    have HS5 := hid (HS4.out.next hm.below)
    have HX5 := hid (HX4.out.kept hm.below (HX4.out.lt N1))
    have HD5 : Hid (Row w5 w4.heap.size 0 q (padF nd fd)) := hid hm.row
    obtain ⟨BD, hBD⟩ : ∃ x, w4.heap.size = x := ⟨_, rfl⟩
    rw [hBD] at HD5
    rw [hBD]
    clear hm hBD HS4 HX4
    have q1 : 0 < q := by
      have h := at_fits (c := c) (j := 0) (List.length_pos_iff.2 HC.out.some)
      rw [HQ.out] at h
      omega
    obtain ⟨z0, z1, zl⟩ := HS5.out.box
    go_wp2_with fail
    refine (run_ok c gn b off n cap A C BX 0 N N (padF ni fi) w5 HG.out HN.out (HR.out.kept HS5.out.bel) HC.out HSH.out HNN.out.1 N16 N1 HX5.out (Nums_pad HI.out.2 _)).mono ?_
    rintro e w6 ⟨V, Dv, rfl, hO⟩
    have HS6 := hid (HS5.out.next hO.below)
    have HX6 := hid (HX5.out.kept hO.below (HX5.out.lt N1))
    have HD6 := hid (HD5.out.kept hO.below (HD5.out.lt q1))
    have HO6 := hid hO
    clear hO HS5 HX5 HD5 z0 z1 zl
    obtain ⟨z0, z1, zl⟩ := HS6.out.box
    go_wp2_with fail
    refine (pv_ok c gn b off n cap A C BX 0 N N (padF ni fi) BD 0 q q (padF nd fd) w6 HG.out HN.out (HR.out.kept HS6.out.bel) HC.out HSH.out HNN.out.1 HX6.out (Nums_pad HI.out.2 _) HD6.out (Nums_pad HD.out.2 _) HQ.out.symm (Nat.le_refl _) (Nat.le_trans q40 (by decide)) (HT.out.kept HS6.out.bel HT.out.1)).mono ?_
    rintro e w7 ⟨PB, m, rfl, hpf, hlow, hb⟩
    have HS7 := hid (HS6.out.next hb)
    have HX7 := hid (HX6.out.kept hb (HX6.out.lt N1))
    have HD7 := hid (HD6.out.kept hb (HD6.out.lt q1))
    have HO7 := hid (HO6.out.kept hb)
    have HP7 := hid hpf
    clear hpf hlow hb HS6 HX6 HD6 HO6 z0 z1 zl
    have hal := (Below.refl w7.heap.size w7).alloc (Nat.le_refl _) (.cells #[.slice (some ⟨PB, 0, none⟩) n n] 28)
    have HS8 := hid (HS7.out.next hal)
    have HX8 := hid (HX7.out.kept hal (HX7.out.lt N1))
    have HD8 := hid (HD7.out.kept hal (HD7.out.lt q1))
    have HO8 := hid (HO7.out.kept hal)
    have HP8 := hid (HP7.out.kept hal)
    have HQ8 : Hid ((w7.alloc (.cells #[.slice (some ⟨PB, 0, none⟩) n n] 28)).cell? ⟨w7.heap.size, 0, none⟩ = some (.slice (some ⟨PB, 0, none⟩) n n)) := hid (by rw [World.cell?_alloc_new]; rfl)
    obtain ⟨y0, y1, yl⟩ := HS8.out.box
    have yq := HQ8.out
    clear hal HS7 HX7 HD7 HO7 HP7
    go_wp2_with fail
    obtain ⟨BQ, hBQ⟩ : ∃ x, w7.heap.size = x := ⟨_, rfl⟩
    rw [hBQ] at HQ8
    rw [hBQ]
    clear hBQ y0 y1 yl yq
    generalize w7.alloc (.cells #[.slice (some ⟨PB, 0, none⟩) n n] 28) = W8 at HS8 HX8 HD8 HO8 HP8 HQ8 ⊢
    refine (form_is (cap := cap) (cp := n) (x := 0) HG.out HN.out (HR.out.kept HS8.out.bel) HC.out HN.out HP8.out (.inr (.inl ⟨HC.out, rightP_shaped _ _ _, rfl⟩)) W8 (Below.refl _ W8)).mono ?_
    rintro e w9 ⟨rfl, hb⟩
    have HS9 := hid (HS8.out.next hb)
    have HX9 := hid (HX8.out.kept hb (HX8.out.lt N1))
    have HD9 := hid (HD8.out.kept hb (HD8.out.lt q1))
    have HO9 := hid (HO8.out.kept hb)
    have HP9 := hid (HP8.out.kept hb)
    have HQ9 := hid (keep_cell HQ8.out hb)
    clear hb HS8 HX8 HD8 HO8 HP8 HQ8
    have cv := HO9.out.cell n (by omega)
    have rv := HO9.out.row n (by omega)
    obtain ⟨M, hM⟩ : ∃ x, lenQ c n = x := ⟨_, rfl⟩
    obtain ⟨dk, hdk⟩ : ∃ x, Dv n = x := ⟨_, rfl⟩
    rw [hM, hdk] at cv rv
    have M1 : 1 ≤ M := by rw [← hM]; exact (lenQ_rng HC.out n (by rw [HN.out]; omega)).1
    have HEN : Hid (endsQ c N M) := hid ⟨by rw [HN.out]; exact HNN.out.2, by rw [← hM]; exact top_len HN.out⟩
    have HVF : Hid (∀ W, Below w9.heap.size w9 W → Calls Tryd.prog 12 #[.agg #[.int .i64 (gn : Int), .slice (some ⟨b, off, none⟩) n cap], .slice (some ⟨BX, 0, none⟩) N N, .slice (some ⟨dk, 0, none⟩) M M, .agg #[.slice (some ⟨PB, 0, none⟩) n n], .slice (some ⟨BD, 0, none⟩) q q] W fun e w' => e = .returned (.tuple #[.bool true, .int .i64 0]) ∧ Below W.heap.size W w') := hid (fun W h => by
      have hS := HS9.out.next h
      refine (vf_ok c (gn : Int) b off n cap A C BX 0 N N dk 0 M M (padF ni fi) (valsQ c (padF ni fi) n) (some ⟨PB, 0, none⟩) n n (rightP c (padF ni fi) (padF nd fd)) m BD 0 q q (padF nd fd) W HG.out HN.out (HR.out.kept hS.bel) HC.out HN.out (HP9.out.kept h) (rightP_nums _ _ _) (rightP_shaped _ _ _) HEN.out (HX9.out.kept h (HX9.out.lt N1)) (Nums_pad HI.out.2 _) (rv.kept h (rv.lt M1)) (Nums_vals c _ n) (HD9.out.kept h (HD9.out.lt q1)) (Nums_pad HD.out.2 _) HQ.out.symm (Nat.le_refl _) (Nat.le_trans q40 (by decide)) (HT.out.kept hS.bel HT.out.1)).mono ?_
      rintro e w' ⟨r, rfl, hr, hb⟩
      have hyes : r = true := hr.2 ((right_iff HC.out _ _ _).2 (by rw [HN.out]))
      exact ⟨by rw [hyes], hb⟩)
    have HFC : Hid (FourC X V n BQ (.int .i64 (gn : Int)) (.slice (some ⟨b, off, none⟩) n cap) (.slice (some ⟨dk, 0, none⟩) M M) (.slice (some ⟨PB, 0, none⟩) n n) w9) := hid ⟨HS9.out.box.c0, HS9.out.box.c1, cv, HQ9.out⟩
    have HB9 := hid HS9.out.bel
    have n0 : (0 : Int) ≤ (n : Int) := by omega
    have n1 : (n : Int) < (n : Int) + 1 := by omega
    have n2 : IntKind.i64.wrap ((n : Int) + 1 - 1) = (n : Int) := by rw [show (n : Int) + 1 - 1 = (n : Int) from by omega]; exact IntWalk.i64_in _ (by omega)
    have n3 : IntKind.i64.wrap (n : Int) = (n : Int) := IntWalk.i64_in _ (by omega)
    have n5 : n < n + 1 := by omega
    clear hM hdk cv rv HEN HS9 HX9 HD9 HO9 HP9 HQ9
    have nc := HFC.out
    go_wp2_with fail
    go_region_held3 (FourC X V n BQ (.int .i64 (gn : Int)) (.slice (some ⟨b, off, none⟩) n cap) (.slice (some ⟨dk, 0, none⟩) M M) (.slice (some ⟨PB, 0, none⟩) n n)) (first | assumption | exact nca) (first
      | (go_at_call 12; refine (HVF.out _ (Below.refl _ w9).drew).mono ?_; rintro e wa ⟨rfl, hb⟩; have hba : Below w9.heap.size w9 wa := (Below.refl _ w9).drew.trans hb; have nca := nc.kept hba; clear hb))
    have HBA := hid (bel_trans hba HB9.out)
    clear nc nca hba HFC HVF
    go_wp2_with fail
    go_ret
    exact ⟨rfl, HBA.out⟩

end Go.Proofs.YtkhacijkfjcdeaaDoor

/-
  A contract of tallyref's Vars: for every list; nothing is written.
-/
namespace Go.Proofs.YtkhacijkfjcdeaaDoor
open Go.RowKit
set_option linter.unusedVariables false

theorem shl_one {k : Nat} (hk : k ≤ 8) : wrap64 ((2 : Int) ^ k) = ((2 ^ k : Nat) : Int) := by
  have h : 2 ^ k ≤ 256 := Nat.pow_le_pow_right (j := 8) (by omega) hk
  rw [show ((2 : Int) ^ k) = ((2 ^ k : Nat) : Int) from by simp]
  generalize 2 ^ k = M at h
  exact IntWalk.wrap64_in _ (by omega)

set_option maxHeartbeats 1000000 in
theorem rvars_ok (ao : Option Addr) (n N cap : Nat) (w : World) (hn : n ≤ 8) (hN : N = 2 ^ n) :
    Calls Tryd.prog 30 #[.slice ao N cap] w fun e w' => e = .returned (.int .i64 (n : Int)) ∧ w' = w := by
  have HN := hid hN
  clear hN
  go_enter Tryd.func30, Tryd.ntmps30
  go_wp2_with fail
  go_loopg [3] n (fun g i wr => ∃ k : Nat, k ≤ n ∧ g = n - k ∧ i = .int .i64 (k : Int) ∧ wr = w)
  case atStart => exact ⟨0, by omega, rfl, rfl, rfl⟩
  case round =>
    obtain ⟨k, hk, rfl, rfl, hw⟩ := hrel
    obtain rfl := hw.symm
    have hs := shl_one (k := k) (by omega)
    by_cases hlt : k < n
    · have hlt2 : 2 ^ k < N := by rw [HN.out]; exact Nat.pow_lt_pow_right (by omega) hlt
      generalize 2 ^ k = M at hs hlt2
      have hb : ((N : Int) == (M : Int)) = false := beq_eq_false_iff_ne.2 (by omega)
      go_wp2_with fail
      go_roundg (n - (k + 1))
      case measure => go_light; omega
      case rel => exact ⟨k + 1, by omega, rfl, by go_num, rfl⟩
    · have e : k = n := by omega
      subst e
      rw [← HN.out] at hs
      go_wp2_with fail
      go_ret
      exact ⟨rfl, rfl⟩
set_option maxHeartbeats 1000000 in
theorem rvars_bad (ao : Option Addr) (N cap : Nat) (w : World) (h : ∀ n, n ≤ 8 → N ≠ 2 ^ n) :
    Calls Tryd.prog 30 #[.slice ao N cap] w fun e w' => e = .returned (.int .i64 (-1)) ∧ w' = w := by
  have HN := hid h
  clear h
  go_enter Tryd.func30, Tryd.ntmps30
  go_wp2_with fail
  go_loopg [3] 9 (fun g i wr => ∃ k : Nat, k ≤ 9 ∧ g = 9 - k ∧ i = .int .i64 (k : Int) ∧ wr = w)
  case atStart => exact ⟨0, by omega, rfl, rfl, rfl⟩
  case round =>
    obtain ⟨k, hk, rfl, rfl, hw⟩ := hrel
    obtain rfl := hw.symm
    by_cases hlt : k < 9
    · have hs := shl_one (k := k) (by omega)
      have hne := HN.out k (by omega)
      generalize 2 ^ k = M at hs hne
      have hb : ((N : Int) == (M : Int)) = false := beq_eq_false_iff_ne.2 (by omega)
      go_wp2_with fail
      go_roundg (9 - (k + 1))
      case measure => go_light; omega
      case rel => exact ⟨k + 1, by omega, rfl, by go_num, rfl⟩
    · have e : k = 9 := by omega
      subst e
      go_wp2_with fail
      go_ret
      exact ⟨rfl, rfl⟩

end Go.Proofs.YtkhacijkfjcdeaaDoor

/-
  A contract of the law GkrOutputs, for every circuit and all lists: it answers true.
-/
namespace Go.Proofs.YtkhacijkfjcdeaaDoor
open Go.RowKit
set_option linter.unusedVariables false
attribute [local go_sem ↓] Go.wp_at_zero Go.wp_at_succ

set_option maxHeartbeats 8000000 in
set_option maxRecDepth 100000 in
theorem gouts_any (c : CQ) (g : Int) (ao : Option Addr) (n cap : Nat) (A : Nat → Option Addr) (C : Nat → Nat) (ai ay ad : Option Addr) (ni ci ny cy nd cd : Nat) (fi fy fd : Nat → Int) (w : World) (ht : Tab w) (hn63 : n ≤ maxLen) (hg : c.log = g) (hn : c.layers.length = n) (hr : CRow w ao c.layers A C) (hi : PRow w ai ni fi) (vi : Nums fi) (hy : PRow w ay ny fy) (vy : Nums fy) (hd : PRow w ad nd fd) (vd : Nums fd) :
    Calls Tryd.prog 7 #[.agg #[.int .i64 g, .slice ao n cap], .slice ai ni ci, .slice ay ny cy, .slice ad nd cd] w fun e w' => e = .returned (.bool true) ∧ Below w.heap.size w w' := by
  have HS0 := hid (StW.start w g (.slice ao n cap) 24)
  have HHE := hid (fun W (h : Below w.heap.size w W) => held_any W (ht.kept h ht.1))
  have HSM := hid (fun W (h : Below w.heap.size w W) => small_any c g ao n cap A C W hn63 hg hn (hr.kept h))
  have HR := hid hr
  have HG := hid hg
  have HN := hid hn
  have HT := hid ht
  have HI := hid (And.intro hi vi)
  have HY := hid (And.intro hy vy)
  have HD := hid (And.intro hd vd)
  clear hr hg hn ht hi vi hy vy hd vd hn63
  go_enter Tryd.func7, Tryd.ntmps7
  go_wp2_with fail
  obtain ⟨X, hX⟩ : ∃ X, w.heap.size = X := ⟨_, rfl⟩
  rw [hX] at HS0
  rw [hX]
  clear hX
  generalize w.alloc (.cells #[.int .i64 g, .slice ao n cap] 24) = W0 at HS0 ⊢
  refine (HHE.out _ HS0.out.bel).mono ?_
  rintro e w1 ⟨rfl, hb⟩
  have HS1 := hid (HS0.out.next hb)
  clear hb HS0 HHE
  obtain ⟨z0, z1, zl⟩ := HS1.out.box
  go_wp2_with fail
  refine (HSM.out _ HS1.out.bel).mono ?_
  rintro e w2 ⟨r, rfl, hrt, hb⟩
  have HS2 := hid (HS1.out.next hb)
  clear hb HS1 z0 z1 zl HSM
  cases r with
  | false =>
    clear hrt
    go_wp2_with fail
    go_ret
    exact ⟨rfl, HS2.out.bel⟩
  | true =>
    have HC := hid (hrt rfl)
    clear hrt
    obtain ⟨b, off, rfl⟩ := right_addr HC.out HR.out
    obtain ⟨gn, N, rfl, gn4, sh, hN, N1, N16, hNk⟩ := right_nums HG.out HN.out HC.out
    have HNN := hid (And.intro hN hNk)
    have n4 : n ≤ 4 := by have := HC.out.few; have := HN.out; omega
    obtain ⟨q, hq⟩ : ∃ q, needQ c = q := ⟨_, rfl⟩
    have q40 : q ≤ 40 := by rw [← hq]; exact needQ_le HC.out
    have HQ := hid hq
    have HSH := hid sh
    clear hN hNk hq
    obtain ⟨z0, z1, zl⟩ := HS2.out.box
    have gn0 : (0 : Int) ≤ (gn : Int) := by omega
    go_wp2_with fail
    rw [HSH.out]
    refine (point_any ai ni ci N fi w2 (by omega) (HI.out.1.kept HS2.out.bel)).mono ?_
    rintro e w3 ⟨rfl, hm⟩
    have HS3 := hid (HS2.out.next hm.below)
    have HXR : Hid (Row w3 w2.heap.size 0 N (padF ni fi)) := hid hm.row
    obtain ⟨BX, hBX⟩ : ∃ x, w2.heap.size = x := ⟨_, rfl⟩
    rw [hBX] at HXR
    rw [hBX]
    clear hm hBX HS2 z0 z1 zl
    obtain ⟨z0, z1, zl⟩ := HS3.out.box
    go_wp2_with fail
    refine (draws_ok c gn b off n cap A C w3 HG.out HN.out (HR.out.kept HS3.out.bel) HC.out).mono ?_
    rintro e w4 ⟨rfl, hb⟩
    rw [HQ.out]
    have HS4 := hid (HS3.out.next hb)
    have HX4 := hid (HXR.out.kept hb (HXR.out.lt N1))
    clear hb HS3 HXR z0 z1 zl
    go_wp2_with fail
    refine (point_any ad nd cd q fd w4 (by omega) (HD.out.1.kept HS4.out.bel)).mono ?_
    rintro e w5 ⟨rfl, hm⟩
    have HS5 := hid (HS4.out.next hm.below)
    have HX5 := hid (HX4.out.kept hm.below (HX4.out.lt N1))
    have HD5 : Hid (Row w5 w4.heap.size 0 q (padF nd fd)) := hid hm.row
    obtain ⟨BD, hBD⟩ : ∃ x, w4.heap.size = x := ⟨_, rfl⟩
    rw [hBD] at HD5
    rw [hBD]
    clear hm hBD HS4 HX4
    have q1 : 0 < q := by
      have h := at_fits (c := c) (j := 0) (List.length_pos_iff.2 HC.out.some)
      rw [HQ.out] at h
      omega
    obtain ⟨z0, z1, zl⟩ := HS5.out.box
    go_wp2_with fail
    refine (run_ok c gn b off n cap A C BX 0 N N (padF ni fi) w5 HG.out HN.out (HR.out.kept HS5.out.bel) HC.out HSH.out HNN.out.1 N16 N1 HX5.out (Nums_pad HI.out.2 _)).mono ?_
    rintro e w6 ⟨V, Dv, rfl, hO⟩
    have HS6 := hid (HS5.out.next hO.below)
    have HX6 := hid (HX5.out.kept hO.below (HX5.out.lt N1))
    have HD6 := hid (HD5.out.kept hO.below (HD5.out.lt q1))
    have HO6 := hid hO
    clear hO HS5 HX5 HD5 z0 z1 zl
    have cv := HO6.out.cell n (by omega)
    have rv := HO6.out.row n (by omega)
    obtain ⟨M, hM⟩ : ∃ x, lenQ c n = x := ⟨_, rfl⟩
    obtain ⟨dk, hdk⟩ : ∃ x, Dv n = x := ⟨_, rfl⟩
    rw [hM, hdk] at cv rv
    have Mr := lenQ_rng HC.out n (by rw [HN.out]; omega)
    rw [hM] at Mr
    obtain ⟨M1, M16⟩ := Mr
    have HL6 := hid rv
    have HML : Hid (M = 2 ^ (partsQ c).lg 0) := hid (by rw [← hM]; exact top_len HN.out)
    have HEN : Hid (endsQ c N M) := hid ⟨by rw [HN.out]; exact HNN.out.2, HML.out⟩
    have n0 : (0 : Int) ≤ (n : Int) := by omega
    have n1 : (n : Int) < (n : Int) + 1 := by omega
    have n2 : IntKind.i64.wrap ((n : Int) + 1 - 1) = (n : Int) := by rw [show (n : Int) + 1 - 1 = (n : Int) from by omega]; exact IntWalk.i64_in _ (by omega)
    have n3 : IntKind.i64.wrap (n : Int) = (n : Int) := IntWalk.i64_in _ (by omega)
    have n5 : n < n + 1 := by omega
    clear hM hdk rv HO6
    go_wp2_with fail
    clear cv
    refine (point_any ay ny cy M fy w6 (by omega) (HY.out.1.kept HS6.out.bel)).mono ?_
    rintro e w7 ⟨rfl, hm⟩
    have HS7 := hid (HS6.out.next hm.below)
    have HX7 := hid (HX6.out.kept hm.below (HX6.out.lt N1))
    have HD7 := hid (HD6.out.kept hm.below (HD6.out.lt q1))
    have HL7 := hid (HL6.out.kept hm.below (HL6.out.lt M1))
    have HY7 : Hid (Row w7 w6.heap.size 0 M (padF ny fy)) := hid hm.row
    obtain ⟨BY, hBY⟩ : ∃ x, w6.heap.size = x := ⟨_, rfl⟩
    rw [hBY] at HY7
    rw [hBY]
    clear hm hBY HS6 HX6 HD6 HL6
    obtain ⟨z0, z1, zl⟩ := HS7.out.box
    go_wp2_with fail
    refine (pv_ok c gn b off n cap A C BX 0 N N (padF ni fi) BD 0 q q (padF nd fd) w7 HG.out HN.out (HR.out.kept HS7.out.bel) HC.out HSH.out HNN.out.1 HX7.out (Nums_pad HI.out.2 _) HD7.out (Nums_pad HD.out.2 _) HQ.out.symm (Nat.le_refl _) (Nat.le_trans q40 (by decide)) (HT.out.kept HS7.out.bel HT.out.1)).mono ?_
    rintro e w8 ⟨PB, m, rfl, hpf, hlow, hb⟩
    have hal := bel_alloc (.cells #[.slice (some ⟨PB, 0, none⟩) n n] 28) hb
    have hal8 := bel_alloc (.cells #[.slice (some ⟨PB, 0, none⟩) n n] 28) (Below.refl _ w8)
    have HS8 := hid (HS7.out.next hal)
    have HX8 := hid (HX7.out.kept hal (HX7.out.lt N1))
    have HD8 := hid (HD7.out.kept hal (HD7.out.lt q1))
    have HL8 := hid (HL7.out.kept hal (HL7.out.lt M1))
    have HY8 := hid (HY7.out.kept hal (HY7.out.lt M1))
    have HP8 := hid (hpf.kept hal8)
    have HQ8 : Hid ((w8.alloc (.cells #[.slice (some ⟨PB, 0, none⟩) n n] 28)).cell? ⟨w8.heap.size, 0, none⟩ = some (.slice (some ⟨PB, 0, none⟩) n n)) := hid (by rw [World.cell?_alloc_new]; rfl)
    obtain ⟨y0, y1, yl⟩ := HS8.out.box
    have yq := HQ8.out
    clear hal hal8 hpf hlow hb HS7 HX7 HD7 HL7 HY7 z0 z1 zl
    go_wp2_with fail
    clear y0 y1 yl yq HQ8
    generalize w8.alloc (.cells #[.slice (some ⟨PB, 0, none⟩) n n] 28) = W8 at HS8 HX8 HD8 HL8 HY8 HP8 ⊢
    refine (vf_ok c (gn : Int) b off n cap A C BX 0 N N BY 0 M M (padF ni fi) (padF ny fy) (some ⟨PB, 0, none⟩) n n (rightP c (padF ni fi) (padF nd fd)) m BD 0 q q (padF nd fd) W8 HG.out HN.out (HR.out.kept HS8.out.bel) HC.out HN.out HP8.out (rightP_nums _ _ _) (rightP_shaped _ _ _) HEN.out HX8.out (Nums_pad HI.out.2 _) HY8.out (Nums_pad HY.out.2 _) HD8.out (Nums_pad HD.out.2 _) HQ.out.symm (Nat.le_refl _) (Nat.le_trans q40 (by decide)) (HT.out.kept HS8.out.bel HT.out.1)).mono ?_
    rintro e w9 ⟨r, rfl, hrr, hb⟩
    rw [right_iff HC.out] at hrr
    have HRR := hid hrr
    have HS9 := hid (HS8.out.next hb)
    have HD9 := hid (HD8.out.kept hb (HD8.out.lt q1))
    have HL9 := hid (HL8.out.kept hb (HL8.out.lt M1))
    have HY9 := hid (HY8.out.kept hb (HY8.out.lt M1))
    clear hrr hb HS8 HX8 HD8 HL8 HY8 HP8 HEN
    rw [HN.out] at HRR
    obtain ⟨k, hk⟩ : ∃ k, (partsQ c).lg 0 = k := ⟨_, rfl⟩
    have k4 : k ≤ 4 := by rw [← hk]; exact parts_lg HC.out 0
    have kq : k ≤ q := by
      have h := at_mono (partsQ c) (Nat.zero_le c.layers.length)
      have h2 : needQ c = q := HQ.out
      have h3 : (partsQ c).at 0 = k := hk
      have h4 : (partsQ c).at c.layers.length = q := h2
      omega
    rw [hk] at HRR HML
    clear hk
    obtain ⟨u, hu⟩ : ∃ u, ofK (evS (fun j => kk (valsQ c (padF ni fi) n j)) (fun j => kk (padF nd fd j)) k) = u := ⟨_, rfl⟩
    obtain ⟨v, hv⟩ : ∃ v, ofK (evS (fun j => kk (padF ny fy j)) (fun j => kk (padF nd fd j)) k) = v := ⟨_, rfl⟩
    have HUV : Hid ((r == (u == v)) = true) := hid (by
      have h : r = true ↔ u = v := by
        rw [HRR.out, ← hu, ← hv]
        constructor
        · intro h; rw [h]
        · intro h
          have := congrArg kk h
          rw [kk_ofK, kk_ofK] at this
          exact this.symm
      by_cases e : u = v
      · rw [h.2 e, beq_iff_eq.2 e]; rfl
      · have e2 : r = false := by
          cases r with
          | false => rfl
          | true => exact absurd (h.1 rfl) e
        rw [e2, beq_eq_false_iff_ne.2 e]; rfl)
    have HEU : Hid (∀ W, Below w9.heap.size w9 W → Calls Tryd.prog 31 #[.slice (some ⟨dk, 0, none⟩) M M, .slice (some ⟨BD, 0, none⟩) k q] W fun e w' => e = .returned (.tuple #[.int .u64 u, .int .i64 0]) ∧ Below W.heap.size W w') := hid (fun W h => by
      rw [← hu]
      exact eval_ok dk 0 k M M q (some ⟨BD, 0, none⟩) (valsQ c (padF ni fi) n) (padF nd fd) W (by omega) HML.out (HT.out.kept (bel_trans h HS9.out.bel) HT.out.1) (HL9.out.kept h (HL9.out.lt M1)) (Nums_vals c _ n) (PRow.of (fun j hj => (HD9.out.kept h (HD9.out.lt q1)) j (by omega))) (Nums_pad HD.out.2 _))
    have HEV : Hid (∀ W, Below w9.heap.size w9 W → Calls Tryd.prog 31 #[.slice (some ⟨BY, 0, none⟩) M M, .slice (some ⟨BD, 0, none⟩) k q] W fun e w' => e = .returned (.tuple #[.int .u64 v, .int .i64 0]) ∧ Below W.heap.size W w') := hid (fun W h => by
      rw [← hv]
      exact eval_ok BY 0 k M M q (some ⟨BD, 0, none⟩) (padF ny fy) (padF nd fd) W (by omega) HML.out (HT.out.kept (bel_trans h HS9.out.bel) HT.out.1) (HY9.out.kept h (HY9.out.lt M1)) (Nums_pad HY.out.2 _) (PRow.of (fun j hj => (HD9.out.kept h (HD9.out.lt q1)) j (by omega))) (Nums_pad HD.out.2 _))
    clear hu hv HRR
    have HB9 := hid HS9.out.bel
    have huv := HUV.out
    have k0 : (0 : Int) ≤ (k : Int) := by omega
    have k1 : (k : Int) ≤ (q : Int) := by omega
    clear HS9 HL9 HY9 HD9
    go_wp2_with fail
    refine (rvars_ok (some ⟨dk, 0, none⟩) k M M w9 (by omega) HML.out).mono ?_
    rintro e w' ⟨rfl, hw⟩
    obtain rfl := hw.symm
    clear hw
    go_wp2_with fail
    refine (HEU.out w9 (Below.refl _ w9)).mono ?_
    rintro e wa ⟨rfl, hba⟩
    go_wp2_with fail
    refine (HEV.out wa hba).mono ?_
    rintro e wb ⟨rfl, hbb⟩
    have HBB := hid (bel_trans hbb (bel_trans hba HB9.out))
    clear hba hbb
    go_wp2_with fail
    go_ret
    exact ⟨rfl, HBB.out⟩

end Go.Proofs.YtkhacijkfjcdeaaDoor
