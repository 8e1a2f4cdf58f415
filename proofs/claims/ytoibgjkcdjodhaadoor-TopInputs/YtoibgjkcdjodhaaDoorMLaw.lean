/-
  Several texts in one: CircOpen, CircF, Tiny, Gkl1, Equal, TopT, Topl2; each opens with what it holds.
-/
import Derived.Test.YtoibgjkcdjodhaaDoorChecked
import Derived.Test.YtoibgjkcdjodhaaDoorCirc
import Derived.OpenShut
import Derived.Deep.Strs
import Derived.Deep.SlicePairs
import Derived.Test.YtoibgjkcdjodhaaDoorCircC
import Derived.Test.YtoibgjkcdjodhaaDoorMGkB
import Derived.Test.YtoibgjkcdjodhaaDoorMRef
import Derived.Test.YtoibgjkcdjodhaaDoorMFiat
import Derived.Deep.RegionHeld3
import Derived.Test.YtoibgjkcdjodhaaDoorOwn
import Derived.Deep.RegionWith
import Derived.Deep.LoopGhost
import Derived.Deep.Light
import Derived.Deep.DrawnRows
import Derived.StillTailTactics
import Derived.BigQuiet
/-
  What a circuit that came in gives the walk.
-/
namespace Go.Proofs.YtoibgjkcdjodhaaDoor
open Go.ChangeShapes Go.WideShapes Go.RowKit Go.Deep
set_option linter.unusedVariables false

/-- Numbers of Go's int. -/
def I64 (a : Int) : Prop := -9223372036854775808 ≤ a ∧ a ≤ 9223372036854775807
theorem i64_of_wf {a : Int} (h : (Lit.int .i64 a).wf = true) : I64 a := by
  simp [Lit.wf, IntKind.min, IntKind.max, IntKind.signed, IntKind.bits] at h
  unfold I64
  omega
/-- A circuit that came in. -/
structure IsCirc (w : World) (g : Int) (a : Option Addr) (len cap : Nat) (c : CQ) (A : Nat → Option Addr) (C : Nat → Nat) : Prop where
  log : c.log = g
  logR : I64 g
  lenE : c.layers.length = len
  capE : len ≤ cap
  maxE : cap ≤ maxLen
  row : CRow w a c.layers A C
  rng : ∀ l ∈ c.layers, I64 l.log ∧ l.gates.length ≤ maxLen ∧ ∀ q ∈ l.gates, I64 q.a ∧ I64 q.b
theorem add_three (a : Addr) (i j : Nat) : (a.add (i * 3)).add j = a.add (3 * i + j) := by rw [add_add, Nat.mul_comm]
theorem add_two (a : Addr) (i j : Nat) : (a.add (i * 2)).add j = a.add (2 * i + j) := by rw [add_add, Nat.mul_comm]
theorem gate_cells : Tryd.prog.cellsOf 67 = 3 := by kernel_rfl
theorem layer_cells : Tryd.prog.cellsOf 70 = 2 := by kernel_rfl
theorem circ_cells : Tryd.prog.cellsOf 24 = 2 := by kernel_rfl
theorem int_cells : Tryd.prog.cellsOf 3 = 1 := by kernel_rfl
theorem bool_cells : Tryd.prog.cellsOf 4 = 1 := by kernel_rfl
theorem gates_cells : Tryd.prog.cellsOf 68 = 1 := by kernel_rfl
theorem layers_cells : Tryd.prog.cellsOf 22 = 1 := by kernel_rfl
theorem cell_spot {w : World} {a : Addr} {u : Value} (h : w.cell? (a.add 0) = some u) : ∃ b off, a = ⟨b, off, none⟩ := by
  obtain ⟨b, off, spot⟩ := a
  have hspot : spot = none := by simpa [Addr.add] using World.cell?_spot h
  subst hspot
  exact ⟨b, off, rfl⟩

section
variable {H : Type} {enc : TypeId × Value → H} {W : World} {base : Nat} {held : Bool}
set_option maxRecDepth 100000 in
theorem gates_of {fuel : Nat} {a : Option Addr} {len cap : Nat} {x : DataW H × List MemPlace}
    (h : DataW.trod enc Tryd.prog W base (fun _ => true) held fuel 68 [Value.slice a len cap] = some x) :
    ∃ gs : List GQ, gs.length = len ∧ len ≤ cap ∧ len ≤ maxLen ∧ GRow W a gs ∧ ∀ g ∈ gs, I64 g.a ∧ I64 g.b := by
  rcases open_slice Tryd.underlying68 h with ⟨hcs, _⟩ | ⟨a', len', cap', m, n, D, Pl, hcs, _, hl, hm, hmm, _, hx⟩
  · simp at hcs
    obtain ⟨rfl, rfl, rfl⟩ := hcs
    exact ⟨[], rfl, Nat.le_refl _, Nat.zero_le _, fun h => absurd rfl h, by simp⟩
  · simp at hcs
    obtain ⟨rfl, rfl, rfl⟩ := hcs
    simp only [if_true] at hmm
    have each : ∀ i, i < len → ∃ g : GQ, W.cell? (a'.add (3 * i)) = some (.bool g.mul) ∧ W.cell? (a'.add (3 * i + 1)) = some (.int .i64 g.a) ∧ W.cell? (a'.add (3 * i + 2)) = some (.int .i64 g.b) ∧ I64 g.a ∧ I64 g.b := by
      intro i hi
      obtain ⟨cs', h1, h2⟩ := hx i (by omega)
      rw [gate_cells] at h1
      obtain ⟨_, hlen, hcell⟩ := World.cells?_some h1
      obtain ⟨y0, y1, y2, k, _, _, g0, g1, g2⟩ := trod_struct3 Tryd.underlying67 h2
      match cs', hlen with
      | [v0, v1, v2], _ =>
        simp [int_cells, bool_cells] at g0 g1 g2
        obtain ⟨b, e0, _⟩ := DataW.trod_bool Tryd.underlying4 g0
        obtain ⟨p, e1, _, r1⟩ := DataW.trod_int Tryd.underlying3 g1
        obtain ⟨q, e2, _, r2⟩ := DataW.trod_int Tryd.underlying3 g2
        simp at e0 e1 e2
        subst e0
        subst e1
        subst e2
        have c0 := hcell 0 (by omega)
        have c1 := hcell 1 (by omega)
        have c2 := hcell 2 (by omega)
        rw [add_three] at c0 c1 c2
        exact ⟨⟨b, p, q⟩, by simpa using c0, by simpa using c1, by simpa using c2, i64_of_wf r1, i64_of_wf r2⟩
    haveI : Inhabited GQ := ⟨⟨false, 0, 0⟩⟩
    obtain ⟨f, hf⟩ := choose_lt each
    have hg : ∀ j g, ((List.range len).map f)[j]? = some g → j < len ∧ g = f j := by
      intro j g e
      by_cases hj : j < len
      · simp [hj] at e; exact ⟨hj, e.symm⟩
      · simp [hj] at e
    refine ⟨(List.range len).map f, by simp, hl, Nat.le_trans hl hm, fun hne => ?_, fun g hg2 => ?_⟩
    · have h0 : 0 < len := by
        rcases Nat.eq_zero_or_pos len with e | e
        · rw [e] at hne; simp at hne
        · exact e
      obtain ⟨b, off, rfl⟩ := cell_spot (by simpa using (hf 0 h0).1)
      refine ⟨b, off, rfl, fun j g e => ?_⟩
      obtain ⟨hj, rfl⟩ := hg j g e
      obtain ⟨c0, c1, c2, _⟩ := hf j hj
      rw [Addr.add_lit] at c0 c1 c2
      exact ⟨c0, c1, c2⟩
    · obtain ⟨j, hj, rfl⟩ := List.mem_map.1 hg2
      exact (hf j (List.mem_range.1 hj)).2.2.2
set_option maxRecDepth 100000 in
theorem layers_of {fuel : Nat} {a : Option Addr} {len cap : Nat} {x : DataW H × List MemPlace}
    (h : DataW.trod enc Tryd.prog W base (fun _ => true) held fuel 22 [Value.slice a len cap] = some x) :
    ∃ (ls : List LQ) (A : Nat → Option Addr) (C : Nat → Nat), ls.length = len ∧ len ≤ cap ∧ cap ≤ maxLen ∧ CRow W a ls A C ∧ ∀ l ∈ ls, I64 l.log ∧ l.gates.length ≤ maxLen ∧ ∀ q ∈ l.gates, I64 q.a ∧ I64 q.b := by
  rcases open_slice Tryd.underlying22 h with ⟨hcs, _⟩ | ⟨a', len', cap', m, n, D, Pl, hcs, _, hl, hm, hmm, _, hx⟩
  · simp at hcs
    obtain ⟨rfl, rfl, rfl⟩ := hcs
    exact ⟨[], fun _ => none, fun _ => 0, rfl, Nat.le_refl _, Nat.zero_le _, fun h => absurd rfl h, by simp⟩
  · simp at hcs
    obtain ⟨rfl, rfl, rfl⟩ := hcs
    simp only [if_true] at hmm
    have each : ∀ i, i < len → ∃ y : LQ × Option Addr × Nat, W.cell? (a'.add (2 * i)) = some (.int .i64 y.1.log) ∧ W.cell? (a'.add (2 * i + 1)) = some (.slice y.2.1 y.1.gates.length y.2.2) ∧ GRow W y.2.1 y.1.gates ∧ y.1.gates.length ≤ y.2.2 ∧
        I64 y.1.log ∧ y.1.gates.length ≤ maxLen ∧ ∀ q ∈ y.1.gates, I64 q.a ∧ I64 q.b := by
      intro i hi
      obtain ⟨cs', h1, h2⟩ := hx i (by omega)
      rw [layer_cells] at h1
      obtain ⟨_, hlen, hcell⟩ := World.cells?_some h1
      obtain ⟨y0, y1, k, _, _, g0, g1⟩ := trod_struct2 Tryd.underlying70 h2
      match cs', hlen with
      | [v0, v1], _ =>
        simp [int_cells, gates_cells] at g0 g1
        obtain ⟨p, e0, _, r0⟩ := DataW.trod_int Tryd.underlying3 g0
        simp at e0
        subst e0
        obtain ⟨ga, gl, gc, rfl⟩ : ∃ ga gl gc, v1 = .slice ga gl gc := by
          rcases open_slice Tryd.underlying68 g1 with ⟨e, _⟩ | ⟨_, _, _, _, _, _, _, e, _⟩
          · simp at e; exact ⟨_, _, _, e⟩
          · simp at e; exact ⟨_, _, _, e⟩
        obtain ⟨gs, e1, e2, e3, e4, e5⟩ := gates_of g1
        have c0 := hcell 0 (by omega)
        have c1 := hcell 1 (by omega)
        rw [add_two] at c0 c1
        exact ⟨(⟨p, gs⟩, ga, gc), by simpa using c0, by simpa [e1] using c1, e4, by rw [e1]; exact e2, i64_of_wf r0, by rw [e1]; exact e3, e5⟩
    haveI : Inhabited (LQ × Option Addr × Nat) := ⟨(⟨0, []⟩, none, 0)⟩
    obtain ⟨f, hf⟩ := choose_lt each
    have hg : ∀ j g, ((List.range len).map fun i => (f i).1)[j]? = some g → j < len ∧ g = (f j).1 := by
      intro j g e
      by_cases hj : j < len
      · simp [hj] at e; exact ⟨hj, e.symm⟩
      · simp [hj] at e
    refine ⟨(List.range len).map fun i => (f i).1, fun i => (f i).2.1, fun i => (f i).2.2, by simp, hl, hm, fun hne => ?_, fun g hg2 => ?_⟩
    · have h0 : 0 < len := by
        rcases Nat.eq_zero_or_pos len with e | e
        · rw [e] at hne; simp at hne
        · exact e
      obtain ⟨b, off, rfl⟩ := cell_spot (by simpa using (hf 0 h0).1)
      refine ⟨b, off, rfl, fun j g e => ?_⟩
      obtain ⟨hj, rfl⟩ := hg j g e
      obtain ⟨c0, c1, c2, c3, _⟩ := hf j hj
      rw [Addr.add_lit] at c0 c1
      exact ⟨c0, c1, c2, c3⟩
    · obtain ⟨j, hj, rfl⟩ := List.mem_map.1 hg2
      exact (hf j (List.mem_range.1 hj)).2.2.2.2
set_option maxRecDepth 100000 in
theorem circ_val {v : Value} {d : DataW H} {p : List MemPlace} (hv : Value.okWide Tryd.prog W .any base 24 v) (h : DataW.Trod enc Tryd.prog W 0 (fun _ => true) true 24 v d p) :
    ∃ g a len cap, v = .agg #[.int .i64 g, .slice a len cap] := by
  obtain ⟨cs, rfl, hs⟩ := okWide_struct Tryd.underlying24 hv
  obtain ⟨fuel, hf⟩ := h
  obtain ⟨y0, y1, k, _, _, g0, g1⟩ := trod_struct2 Tryd.underlying24 hf
  rw [circ_cells] at hs
  obtain ⟨l⟩ := cs
  match l, hs with
  | [v0, v1], _ =>
    simp [Value.cells, int_cells, layers_cells] at g0 g1
    obtain ⟨p, e0, _, _⟩ := DataW.trod_int Tryd.underlying3 g0
    simp at e0
    subst e0
    rcases open_slice Tryd.underlying22 g1 with ⟨e, _⟩ | ⟨_, _, _, _, _, _, _, e, _⟩
    · simp at e; exact ⟨_, _, _, _, by rw [e]⟩
    · simp at e; exact ⟨_, _, _, _, by rw [e]⟩
set_option maxRecDepth 100000 in
theorem circ_of {g : Int} {a : Option Addr} {len cap : Nat} {d : DataW H} {p : List MemPlace} (h : DataW.Trod enc Tryd.prog W 0 (fun _ => true) true 24 (.agg #[.int .i64 g, .slice a len cap]) d p) :
    ∃ c A C, IsCirc W g a len cap c A C := by
  obtain ⟨fuel, hf⟩ := h
  obtain ⟨y0, y1, k, _, _, g0, g1⟩ := trod_struct2 Tryd.underlying24 hf
  simp [Value.cells, int_cells, layers_cells] at g0 g1
  obtain ⟨p, e0, _, r0⟩ := DataW.trod_int Tryd.underlying3 g0
  simp at e0
  subst e0
  obtain ⟨ls, A, C, e1, e2, e3, e4, e5⟩ := layers_of g1
  exact ⟨⟨g, ls⟩, A, C, rfl, i64_of_wf r0, e1, e2, e3, e4, e5⟩
end

end Go.Proofs.YtoibgjkcdjodhaaDoor

/-
  Plain: of a right circuit all numbers are small; the law's own tiny circuit; no program in it.
-/
namespace Go.Proofs.YtoibgjkcdjodhaaDoor
set_option linter.unusedVariables false

theorem pow_le16 {k : Int} (h : k ≤ 4) : 2 ^ k.toNat ≤ 16 := Nat.le_trans (Nat.pow_le_pow_right (by omega) (show k.toNat ≤ 4 by omega)) (Nat.le_refl 16)
theorem layersR_small : ∀ (ls : List LQ) (k : Int), k ≤ 4 → layersR k ls → ∀ l ∈ ls, (0 ≤ l.log ∧ l.log ≤ 4) ∧ l.gates.length ≤ 16 ∧ ∀ q ∈ l.gates, (0 ≤ q.a ∧ q.a < 100) ∧ 0 ≤ q.b ∧ q.b < 100
  | [], _, _, _ => by simp
  | x :: r, k, hk, h => by
    intro l hl
    obtain ⟨⟨hx1, hx2, hx3⟩, hr⟩ := h
    rcases List.mem_cons.1 hl with rfl | hl
    · refine ⟨hx1, by rw [hx2]; exact pow_le16 hx1.2, fun q hq => ?_⟩
      obtain ⟨⟨a0, a1⟩, b0, b1⟩ := hx3 q hq
      have := pow_le16 hk
      exact ⟨⟨a0, by omega⟩, b0, by omega⟩
    · exact layersR_small r x.log hx1.2 hr l hl
theorem right_small {c : CQ} (h : c.right) : ∀ l ∈ c.layers, (0 ≤ l.log ∧ l.log ≤ 4) ∧ l.gates.length ≤ 16 ∧ ∀ q ∈ l.gates, (0 ≤ q.a ∧ q.a < 100) ∧ 0 ≤ q.b ∧ q.b < 100 := layersR_small _ _ h.log.2 h.each
theorem right_fits {c : CQ} (h : c.right) : c.fits := by
  have hs := right_small h
  have hl := h.log
  intro x hx
  rcases List.mem_cons.1 hx with rfl | hx
  · show 0 ≤ c.log ∧ c.log < 100
    omega
  · obtain ⟨l, hl1, hl2⟩ := List.mem_flatMap.1 hx
    obtain ⟨h1, h2, h3⟩ := hs l hl1
    rcases List.mem_cons.1 hl2 with rfl | hl2
    · show 0 ≤ l.log ∧ l.log < 100
      omega
    · obtain ⟨q, hq, rfl⟩ := List.mem_map.1 hl2
      exact h3 q hq
def tinyQ : CQ := ⟨1, [⟨1, [⟨true, 0, 1⟩, ⟨false, 0, 1⟩]⟩]⟩
theorem tiny_right : tinyQ.right := by
  refine ⟨by decide, by decide, by decide, ⟨by decide, by decide, ?_⟩, trivial⟩
  intro q hq
  simp at hq
  rcases hq with rfl | rfl <;> exact ⟨by decide, by decide⟩

end Go.Proofs.YtoibgjkcdjodhaaDoor

/-
  A contract of the laws' own tiny circuit; what it makes is new.
-/
namespace Go.Proofs.YtoibgjkcdjodhaaDoor
open Go.RowKit
set_option linter.unusedVariables false
attribute [local go_sem ↓] Go.wp_at_zero Go.wp_at_succ

theorem results_cell1 {fn : Func} {p : Tmp} {ty : TypeId} (h : fn.results = #[.cell p ty]) (tmps : Array Value) (P : Program) (w : World) :
    (results fn tmps).run P w = ((asAddr (tmps.getD p undef)).run P w).andThen fun a w₁ => (loadVar ty a).run P w₁ := by
  simp only [results, h]
  simp [Sem.run_bind, Result.andThen]
theorem load_circ1 {w : World} {b : Nat} {x0 x1 : Value} (c0 : w.cell? ⟨b, 0, none⟩ = some x0) (c1 : w.cell? ⟨b, 1, none⟩ = some x1) : (loadVar 24 ⟨b, 0, none⟩).run Tryd.prog w = .ok (.agg #[x0, x1]) w := by
  go_simp
theorem results_circ1 {fn : Func} {p : Tmp} (h : fn.results = #[.cell p 24]) {tmps : Array Value} {w : World} {b : Nat} {x0 x1 : Value} (hp : tmps.getD p undef = .pointer (some ⟨b, 0, none⟩)) (c0 : w.cell? ⟨b, 0, none⟩ = some x0) (c1 : w.cell? ⟨b, 1, none⟩ = some x1) :
    (results fn tmps).run Tryd.prog w = .ok (.agg #[x0, x1]) w := by
  rw [results_cell1 h, hp]
  simp [asAddr, Result.andThen, load_circ1 c0 c1]
set_option maxHeartbeats 1000000 in
set_option maxRecDepth 100000 in
theorem tiny_any (w : World) :
    Calls Tryd.prog 8 #[] w fun e w' => ∃ (b : Nat) (A : Nat → Option Addr) (C : Nat → Nat), e = .returned (.agg #[.int .i64 1, .slice (some ⟨b, 0, none⟩) 1 1]) ∧ CRow w' (some ⟨b, 0, none⟩) tinyQ.layers A C ∧ Below w.heap.size w w' := by
  go_enter Tryd.func8, Tryd.ntmps8
  go_wp2_with fail
  refine bodyPost_ret (results_circ1 rfl rfl (by rw [World.cell?_alloc_old _ _ _ (by simp <;> omega), World.cell?_alloc_old _ _ _ (by simp <;> omega), World.cell?_alloc_new]; rfl) (by rw [World.cell?_alloc_old _ _ _ (by simp <;> omega), World.cell?_alloc_old _ _ _ (by simp <;> omega), World.cell?_alloc_new]; rfl)) rfl ?_
  refine ⟨w.heap.size + 1 + 1, fun _ => some ⟨w.heap.size + 1, 0, none⟩, fun _ => 2, rfl, ?_, (((Below.refl w.heap.size w).alloc (Nat.le_refl _) _).alloc (by simp) _).alloc (by simp; omega) _⟩
  generalize hO1 : Obj.cells #[Value.int .i64 1, .slice (some ⟨w.heap.size + 1 + 1, 0, none⟩) 1 1] 24 = o1
  have s1 : (w.alloc o1).heap.size = w.heap.size + 1 := by simp
  generalize w.alloc o1 = w1 at s1 ⊢
  generalize hO2 : Obj.cells #[Value.bool true, .int .i64 0, .int .i64 1, .bool false, .int .i64 0, .int .i64 1] 67 = o2
  have s2 : (w1.alloc o2).heap.size = w.heap.size + 1 + 1 := by simp [s1]
  have g : ∀ j, (w1.alloc o2).cell? ⟨w.heap.size + 1, j, none⟩ = (#[Value.bool true, .int .i64 0, .int .i64 1, .bool false, .int .i64 0, .int .i64 1] : Array Value)[j]? := fun j => by
    rw [← hO2, ← s1, World.cell?_alloc_new]
  generalize w1.alloc o2 = w2 at s2 g ⊢
  have hl : ∀ j, (w2.alloc (Obj.cells #[Value.int .i64 1, .slice (some ⟨w.heap.size + 1, 0, none⟩) 2 2] 70)).cell? ⟨w.heap.size + 1 + 1, j, none⟩ = (#[Value.int .i64 1, .slice (some ⟨w.heap.size + 1, 0, none⟩) 2 2] : Array Value)[j]? := fun j => by
    rw [← s2, World.cell?_alloc_new]
  have g' : ∀ j o, (w2.alloc o).cell? ⟨w.heap.size + 1, j, none⟩ = (#[Value.bool true, .int .i64 0, .int .i64 1, .bool false, .int .i64 0, .int .i64 1] : Array Value)[j]? := fun j o => by
    rw [World.cell?_alloc_old _ _ _ (by show w.heap.size + 1 ≠ w2.heap.size; omega)]; exact g j
  intro _
  refine ⟨_, _, rfl, fun i l hi => ?_⟩
  match i, hi with
  | 0, hi =>
    obtain rfl : (⟨1, [⟨true, 0, 1⟩, ⟨false, 0, 1⟩]⟩ : LQ) = l := by simpa [tinyQ] using hi
    refine ⟨(hl 0).trans rfl, (hl 1).trans rfl, fun _ => ⟨_, _, rfl, fun j q hq => ?_⟩, Nat.le_refl 2⟩
    match j, hq with
    | 0, hq =>
      obtain rfl : (⟨true, 0, 1⟩ : GQ) = q := by simpa using hq
      exact ⟨(g' 0 _).trans rfl, (g' 1 _).trans rfl, (g' 2 _).trans rfl⟩
    | 1, hq =>
      obtain rfl : (⟨false, 0, 1⟩ : GQ) = q := by simpa using hq
      exact ⟨(g' 3 _).trans rfl, (g' 4 _).trans rfl, (g' 5 _).trans rfl⟩
    | j + 2, hq => simp at hq
  | i + 1, hi => simp [tinyQ] at hi

end Go.Proofs.YtoibgjkcdjodhaaDoor

/-
  The right proof holds for just the outputs that have the circuit's value at the point that was drawn; contracts of the laws' own small and held.
-/
namespace Go.Proofs.YtoibgjkcdjodhaaDoor
open Go.RowKit
set_option linter.unusedVariables false
attribute [local go_sem ↓] Go.wp_at_zero Go.wp_at_succ

theorem right_iff {c : CQ} (hc : c.right) (f D fo : Nat → Int) :
    (partsQ c).holds D (rightP c f D).told (ofK (evS (fun j => kk (fo j)) (fun j => kk (D j)) ((partsQ c).lg 0))) (fun j => kk (f j)) ↔ evS (fun j => kk (fo j)) (fun j => kk (D j)) ((partsQ c).lg 0) = evS (fun j => kk (valsQ c f c.layers.length j)) (fun j => kk (D j)) ((partsQ c).lg 0) := by
  have n1 : 0 < (partsQ c).n := List.length_pos_iff.2 hc.some
  rw [rightP_told, Parts.right_holds (partsQ c) D _ _ (parts_fits hc) (parts_run hc f) (fun j => by have := parts_lg hc j; omega) n1]
  have h1 : (partsQ c).tru (valsK c f) D 0 = evS (fun j => kk (valsQ c f c.layers.length j)) (fun j => kk (D j)) ((partsQ c).lg 0) := rfl
  have h2 : (partsQ c).tru (valsK c f) D (partsQ c).n = evS (fun j => kk (f j)) ((partsQ c).z D (partsQ c).n) ((partsQ c).lg (partsQ c).n) := by
    refine evS_congr _ (fun b _ => ?_) (fun _ _ => rfl)
    show kk (valsQ c f (c.layers.length - c.layers.length) b) = _
    rw [Nat.sub_self]
    show kk (nrm (f b)) = kk (f b)
    exact kk_nrm _
  rw [h1, h2]
  constructor
  · rintro ⟨h, _⟩
    have := congrArg kk h
    rwa [kk_ofK, kk_ofK] at this
  · intro h
    exact ⟨by rw [h], rfl⟩
/-- A list of two numbers. -/
def pr (a b : Int) (j : Nat) : Int := if j = 0 then a else b
theorem Nums_pr {a b : Int} (h0 : 0 ≤ a) (h1 : a ≤ 18446744073709551615) (h2 : 0 ≤ b) (h3 : b ≤ 18446744073709551615) : Nums (pr a b) := fun j => by
  unfold pr
  split <;> omega
def dr4 (j : Nat) : Int := if j = 0 then 5 else if j = 1 then 6 else if j = 2 then 7 else 8
theorem Nums_dr4 : Nums dr4 := fun j => by
  unfold dr4
  repeat' split
  all_goals omega
theorem tiny_need : needQ tinyQ = 4 := by decide
theorem tiny_lg : (partsQ tinyQ).lg 0 = 1 := by decide
theorem tiny_ends : endsQ tinyQ 2 2 := by unfold endsQ; decide
theorem ev_one (f g : Nat → K) : evS f g 1 = f 0 + g 0 * (f 1 - f 0) := by
  rw [show (1 : Nat) = 0 + 1 from rfl, evS_fold, evS_zero]; rfl
theorem tiny_yes : (partsQ tinyQ).holds dr4 (rightP tinyQ (pr 3 4) dr4).told (ofK (evS (fun j => kk (pr 12 7 j)) (fun j => kk (dr4 j)) ((partsQ tinyQ).lg 0))) (fun j => kk (pr 3 4 j)) := by
  rw [right_iff tiny_right, tiny_lg, ev_one, ev_one]
  kernel_rfl
theorem tiny_no : ¬ (partsQ tinyQ).holds dr4 (rightP tinyQ (pr 3 4) dr4).told (ofK (evS (fun j => kk (pr 12 8 j)) (fun j => kk (dr4 j)) ((partsQ tinyQ).lg 0))) (fun j => kk (pr 3 4 j)) := by
  rw [right_iff tiny_right, tiny_lg, ev_one, ev_one]
  intro h
  have h2 := congrArg Fin.val h
  revert h2
  decide
set_option maxHeartbeats 2000000 in
set_option maxRecDepth 100000 in
theorem small_any (c : CQ) (g : Int) (ao : Option Addr) (n cap : Nat) (A : Nat → Option Addr) (C : Nat → Nat) (w : World) (hn63 : n ≤ maxLen) (hg : c.log = g) (hn : c.layers.length = n) (hr : CRow w ao c.layers A C) :
    Calls Tryd.prog 11 #[.agg #[.int .i64 g, .slice ao n cap]] w fun e w' => ∃ r : Bool, e = .returned (.bool r) ∧ (r = true → c.right) ∧ Below w.heap.size w w' := by
  have HS0 := hid (StW.start w g (.slice ao n cap) 24)
  have HC := hid (fun W (h : Below w.heap.size w W) => rcirc_any c g ao n cap A C W hg hn (hr.kept h))
  have HR := hid hr
  have HN := hid hn
  have n63 : (n : Int) ≤ 9223372036854775807 := by have : maxLen ≤ 9223372036854775807 := by decide
                                                   omega
  clear hg hn hr hn63
  go_enter Tryd.func11, Tryd.ntmps11
  go_wp2_with fail
  obtain ⟨B, hB⟩ : ∃ B, w.heap.size = B := ⟨_, rfl⟩
  rw [hB] at HS0
  rw [hB]
  clear hB
  generalize w.alloc (.cells #[.int .i64 g, .slice ao n cap] 24) = W1 at HS0 ⊢
  go_loopg [8] n (fun q i wr => ∃ t : Nat, t ≤ n ∧ q = n - t ∧ i = .int .i64 (t : Int) ∧ Hid (StW w wr B g (.slice ao n cap)))
  case atStart => exact ⟨0, by omega, rfl, rfl, HS0⟩
  case round =>
    clear HS0
    obtain ⟨t, htn, rfl, rfl, HS⟩ := hrel
    by_cases htl : t < n
    · obtain ⟨l, hl⟩ : ∃ l, c.layers[t]? = some l := ⟨c.layers[t]'(by rw [HN.out]; exact htl), by simp⟩
      obtain ⟨b, off, rfl, hcc⟩ := HR.out.kept HS.out.bel (by intro e; have := HN.out; rw [e] at this; simp at this; omega)
      obtain ⟨x0, x1, _, _⟩ := hcc t l hl
      rw [Nat.mul_comm 2 t] at x0 x1
      obtain ⟨lg, hlg⟩ : ∃ x, l.log = x := ⟨_, rfl⟩
      rw [hlg] at x0
      have t0 : (0 : Int) ≤ (t : Int) := by omega
      have t1 : (t : Int) < (n : Int) := by omega
      have HAL := hid (fun v => HS.out.next ((Below.refl wr.heap.size wr).alloc (Nat.le_refl _) (.cells #[.int .i64 lg, v] 70)))
      clear hcc hl hlg
      by_cases h2 : (2 : Int) < lg
      · go_wp2_with fail
        go_ret
        exact ⟨false, rfl, fun h => absurd h Bool.false_ne_true, (HAL.out _).bel⟩
      · go_wp2_with fail
        go_roundg (n - (t + 1))
        case measure => go_light; omega
        case rel => exact ⟨t + 1, by omega, rfl, by go_num, hid (HAL.out _)⟩
    · have t1 : ¬ ((t : Int) < (n : Int)) := by omega
      obtain ⟨z0, z1, zl⟩ := HS.out.box
      go_wp2_with fail
      refine (HC.out _ HS.out.bel).mono ?_
      rintro e w1 ⟨y, rfl, hy, hb⟩
      have HS1 := hid (HS.out.next hb)
      have HY := hid hy
      clear hb hy z0 z1 zl HS
      obtain ⟨z0, z1, zl⟩ := HS1.out.box
      by_cases hy0 : y = 0
      · subst hy0
        have HRT := hid (checkE_zero.1 HY.out)
        go_wp2_with fail
        go_ret
        exact ⟨_, rfl, fun _ => HRT.out, HS1.out.bel⟩
      · have e1 : (y == 0) = false := beq_eq_false_iff_ne.2 hy0
        go_wp2_with fail
        go_ret
        exact ⟨false, rfl, fun h => absurd h Bool.false_ne_true, HS1.out.bel⟩
set_option maxHeartbeats 2000000 in
set_option maxRecDepth 100000 in
theorem small_top (c : CQ) (g : Int) (ao : Option Addr) (n cap : Nat) (A : Nat → Option Addr) (C : Nat → Nat) (w : World) (hn63 : n ≤ maxLen) (hg : c.log = g) (hn : c.layers.length = n) (hr : CRow w ao c.layers A C) :
    Calls Tryd.prog 15 #[.agg #[.int .i64 g, .slice ao n cap]] w fun e w' => ∃ r : Bool, e = .returned (.bool r) ∧ (r = true → c.right) ∧ Below w.heap.size w w' := by
  have HS0 := hid (StW.start w g (.slice ao n cap) 24)
  have HC := hid (fun W (h : Below w.heap.size w W) => rcirc_any c g ao n cap A C W hg hn (hr.kept h))
  have HR := hid hr
  have HN := hid hn
  have n63 : (n : Int) ≤ 9223372036854775807 := by have : maxLen ≤ 9223372036854775807 := by decide
                                                   omega
  clear hg hn hr hn63
  go_enter Tryd.func15, Tryd.ntmps15
  go_wp2_with fail
  obtain ⟨B, hB⟩ : ∃ B, w.heap.size = B := ⟨_, rfl⟩
  rw [hB] at HS0
  rw [hB]
  clear hB
  generalize w.alloc (.cells #[.int .i64 g, .slice ao n cap] 24) = W1 at HS0 ⊢
  go_loopg [8] n (fun q i wr => ∃ t : Nat, t ≤ n ∧ q = n - t ∧ i = .int .i64 (t : Int) ∧ Hid (StW w wr B g (.slice ao n cap)))
  case atStart => exact ⟨0, by omega, rfl, rfl, HS0⟩
  case round =>
    clear HS0
    obtain ⟨t, htn, rfl, rfl, HS⟩ := hrel
    by_cases htl : t < n
    · obtain ⟨l, hl⟩ : ∃ l, c.layers[t]? = some l := ⟨c.layers[t]'(by rw [HN.out]; exact htl), by simp⟩
      obtain ⟨b, off, rfl, hcc⟩ := HR.out.kept HS.out.bel (by intro e; have := HN.out; rw [e] at this; simp at this; omega)
      obtain ⟨x0, x1, _, _⟩ := hcc t l hl
      rw [Nat.mul_comm 2 t] at x0 x1
      obtain ⟨lg, hlg⟩ : ∃ x, l.log = x := ⟨_, rfl⟩
      rw [hlg] at x0
      have t0 : (0 : Int) ≤ (t : Int) := by omega
      have t1 : (t : Int) < (n : Int) := by omega
      have HAL := hid (fun v => HS.out.next ((Below.refl wr.heap.size wr).alloc (Nat.le_refl _) (.cells #[.int .i64 lg, v] 70)))
      clear hcc hl hlg
      by_cases h2 : (2 : Int) < lg
      · go_wp2_with fail
        go_ret
        exact ⟨false, rfl, fun h => absurd h Bool.false_ne_true, (HAL.out _).bel⟩
      · go_wp2_with fail
        go_roundg (n - (t + 1))
        case measure => go_light; omega
        case rel => exact ⟨t + 1, by omega, rfl, by go_num, hid (HAL.out _)⟩
    · have t1 : ¬ ((t : Int) < (n : Int)) := by omega
      obtain ⟨z0, z1, zl⟩ := HS.out.box
      go_wp2_with fail
      refine (HC.out _ HS.out.bel).mono ?_
      rintro e w1 ⟨y, rfl, hy, hb⟩
      have HS1 := hid (HS.out.next hb)
      have HY := hid hy
      clear hb hy z0 z1 zl HS
      obtain ⟨z0, z1, zl⟩ := HS1.out.box
      by_cases hy0 : y = 0
      · subst hy0
        have HRT := hid (checkE_zero.1 HY.out)
        go_wp2_with fail
        go_ret
        exact ⟨_, rfl, fun _ => HRT.out, HS1.out.bel⟩
      · have e1 : (y == 0) = false := beq_eq_false_iff_ne.2 hy0
        go_wp2_with fail
        go_ret
        exact ⟨false, rfl, fun h => absurd h Bool.false_ne_true, HS1.out.bel⟩
/-- Below a world that grew, step by step. -/
theorem bel_alloc {X Y : World} (o : Obj) (h : Below X.heap.size X Y) : Below X.heap.size X (Y.alloc o) := h.alloc h.size o
theorem bel_trans {X Y Z : World} (hz : Below Y.heap.size Y Z) (h : Below X.heap.size X Y) : Below X.heap.size X Z := h.trans (hz.mono h.size)
theorem bel_drew {X Y : World} (h : Below X.heap.size X Y) : Below X.heap.size X Y.drew := h.drew
theorem row_pair (w : World) (x y : Int) (t : TypeId) : Row (w.alloc (.cells #[.int .u64 x, .int .u64 y] t)) w.heap.size 0 2 (pr x y) := fun j hj => by
  rw [Nat.zero_add, World.cell?_alloc_new]
  match j, hj with
  | 0, _ => rfl
  | 1, _ => rfl
theorem row_new2 {w : World} {n : Nat} {x y : Int} {t : TypeId} (h : n = w.heap.size) : Row (w.alloc (.cells #[.int .u64 x, .int .u64 y] t)) n 0 2 (pr x y) := by
  subst h
  exact row_pair w x y t
theorem row_old2 {w : World} {n : Nat} {f : Nat → Int} (o : Obj) (h : Row w n 0 2 f) : Row (w.alloc o) n 0 2 f := h.kept (bel_alloc o (Below.refl _ w)) (h.lt (by omega))
theorem row_bel2 {Y Z : World} {n : Nat} {f : Nat → Int} (hb : Below Y.heap.size Y Z) (h : Row Y n 0 2 f) : Row Z n 0 2 f := h.kept hb (h.lt (by omega))
theorem crow_old {w : World} {ao : Option Addr} {ls : List LQ} {A : Nat → Option Addr} {C : Nat → Nat} (o : Obj) (h : CRow w ao ls A C) : CRow (w.alloc o) ao ls A C := h.kept (bel_alloc o (Below.refl _ w))
theorem keep_cell {W W' : World} {a : Addr} {v : Value} (h : W.cell? a = some v) (hb : Below W.heap.size W W') : W'.cell? a = some v := (hb.cell (World.block_lt_of_cell? W _ h)).trans h
theorem row_four (w : World) (t : TypeId) : Row (w.alloc (.cells #[.int .u64 5, .int .u64 6, .int .u64 7, .int .u64 8] t)) w.heap.size 0 4 dr4 := fun j hj => by
  rw [Nat.zero_add, World.cell?_alloc_new]
  match j, hj with
  | 0, _ => rfl
  | 1, _ => rfl
  | 2, _ => rfl
  | 3, _ => rfl

end Go.Proofs.YtoibgjkcdjodhaaDoor

/-
  A contract of slices.Equal at numbers of 64 bits, where both lists have the same numbers; nothing is written.
-/
namespace Go.Proofs.YtoibgjkcdjodhaaDoor
open Go.RowKit
set_option linter.unusedVariables false
attribute [local go_sem ↓] Go.wp_at_zero Go.wp_at_succ

set_option maxHeartbeats 2000000 in
set_option maxRecDepth 100000 in
theorem equal_ok (a0 a1 : Option Addr) (n c0 c1 : Nat) (f g : Nat → Int) (w : World) (hn : n ≤ 100000) (p0 : PRow w a0 n f) (p1 : PRow w a1 n g) (e : ∀ j, j < n → f j = g j) :
    Calls Tryd.prog 10 #[.slice a0 n c0, .slice a1 n c1] w fun e w' => e = .returned (.bool true) ∧ Below w.heap.size w w' := by
  have H0 := hid p0
  have H1 := hid (p1.congr fun j hj => (e j hj).symm)
  clear p0 p1 e
  go_enter Tryd.func10, Tryd.ntmps10
  go_wp2_with fail
  go_loopg [13] n (fun q i wr => ∃ k : Nat, k ≤ n ∧ q = n - k ∧ i = .int .i64 (k : Int) ∧ Hid (PRow wr a0 n f) ∧ Hid (PRow wr a1 n f) ∧ Hid (Below w.heap.size w wr))
  case atStart => exact ⟨0, by omega, rfl, rfl, H0, H1, hid (Below.refl _ _)⟩
  case round =>
    clear H0 H1
    obtain ⟨k, hk, rfl, rfl, H0, H1, HB⟩ := hrel
    by_cases hlt : k < n
    · obtain ⟨b1, o1, rfl, r1⟩ := H0.out (by omega)
      obtain ⟨b2, o2, rfl, r2⟩ := H1.out (by omega)
      have c1 := r1 k hlt
      have c2 := r2 k hlt
      clear r1 r2
      obtain ⟨a, ha⟩ : ∃ a, f k = a := ⟨_, rfl⟩
      rw [ha] at c1 c2
      clear ha
      have k0 : (0 : Int) ≤ (k : Int) := by omega
      have k1 : (k : Int) < (n : Int) := by omega
      go_wp2_with fail
      go_region_with (first | fail)
      all_goals (go_wp2_with fail)
      all_goals (go_roundg (n - (k + 1)))
      all_goals first | (go_light; omega) | (exact ⟨k + 1, by omega, rfl, by go_num, hid H0.out.drew, hid H1.out.drew, hid HB.out.drew⟩)
    · have e : k = n := by omega
      subst e
      go_wp2_with fail
      go_ret
      exact ⟨rfl, HB.out⟩

end Go.Proofs.YtoibgjkcdjodhaaDoor

/-
  The whole's own tiny circuit and what is said of it: it is proved without asking, and a wrong output is refused.
-/
namespace Go.Proofs.YtoibgjkcdjodhaaDoor
open Go.RowKit
set_option linter.unusedVariables false
attribute [local go_sem ↓] Go.wp_at_zero Go.wp_at_succ

def topQ : CQ := ⟨1, [⟨1, [⟨true, 0, 1⟩, ⟨false, 0, 1⟩]⟩, ⟨0, [⟨true, 0, 1⟩]⟩]⟩
theorem top_right : topQ.right := by
  refine ⟨by decide, by decide, by decide, ⟨by decide, by decide, ?_⟩, ⟨by decide, by decide, ?_⟩, trivial⟩
  · intro q hq
    simp at hq
    rcases hq with rfl | rfl <;> exact ⟨by decide, by decide⟩
  · intro q hq
    simp at hq
    subst hq
    exact ⟨by decide, by decide⟩
/-- Its only output. -/
theorem top_out : valsQ topQ (pr 3 4) 2 0 = 84 := by kernel_rfl
theorem top_lg0 : (partsQ topQ).lg 0 = 0 := by decide
theorem top_lg1 : 0 < (partsQ topQ).lg 1 := by decide
theorem top_ends : endsQ topQ 2 1 := by unfold endsQ; decide
def one1 (x : Int) (_ : Nat) : Int := x
theorem Nums_one1 {x : Int} (h0 : 0 ≤ x) (h1 : x ≤ 18446744073709551615) : Nums (one1 x) := fun _ => ⟨h0, h1⟩
theorem row_one (w : World) (x : Int) (t : TypeId) : Row (w.alloc (.cells #[.int .u64 x] t)) w.heap.size 0 1 (one1 x) := fun j hj => by
  rw [Nat.zero_add, World.cell?_alloc_new]
  match j, hj with
  | 0, _ => rfl
theorem row_new1 {w : World} {n : Nat} {x : Int} {t : TypeId} (h : n = w.heap.size) : Row (w.alloc (.cells #[.int .u64 x] t)) n 0 1 (one1 x) := by
  subst h
  exact row_one w x t
theorem row_old1 {w : World} {n : Nat} {f : Nat → Int} (o : Obj) (h : Row w n 0 1 f) : Row (w.alloc o) n 0 1 f := h.kept (bel_alloc o (Below.refl _ w)) (h.lt (by omega))
theorem row_bel1 {Y Z : World} {n : Nat} {f : Nat → Int} (hb : Below Y.heap.size Y Z) (h : Row Y n 0 1 f) : Row Z n 0 1 f := h.kept hb (h.lt (by omega))
/-- The proof of it holds for 84, and not for 85. -/
theorem top_just (p : PQ) (hp : p = fiatP topQ 2 1 (pr 3 4)) (D : Nat → Int) (x : Int) (inp : Nat → K) (h : (partsQ topQ).holds D p.told (ofK (evS (fun j => kk (one1 x j)) (fun j => kk (D j)) ((partsQ topQ).lg 0))) inp) : kk x = kk 84 := by
  subst hp
  have h2 := first_just top_right (pr 3 4) _ D _ inp top_lg1 h
  have h3 := congrArg kk h2
  rw [kk_ofK, kk_ofK, top_lg0, evS_zero] at h3
  unfold Parts.tru at h3
  rw [top_lg0, evS_zero] at h3
  have h4 : valsK topQ (pr 3 4) 0 0 = kk 84 := by
    show kk (valsQ topQ (pr 3 4) 2 0) = _
    rw [top_out]
  rw [h4] at h3
  exact h3
theorem top_ne : kk 85 ≠ kk 84 := by decide
theorem top_val (j : Nat) (hj : j < 1) : valsQ topQ (pr 3 4) 2 j = one1 84 j := by
  obtain rfl : j = 0 := by omega
  exact top_out
theorem tkK_congr (g : Nat → K) (n : Nat) {f f' : Nat → Int} (h : ∀ j, j < n → kk (f j) = kk (f' j)) : tkK g n f = tkK g n f' := by
  unfold tkK
  rw [takesK_congr n n h]
theorem top_askG : askG topQ 2 1 (pr 3 4) (one1 84) = askG topQ 2 1 (pr 3 4) (valsQ topQ (pr 3 4) 2) := by
  unfold askG
  exact tkK_congr _ 1 fun j hj => by rw [top_val j hj]
theorem top_yes : (partsQ topQ).holds (fiatD topQ 2 1 (pr 3 4) (one1 84) (fiatP topQ 2 1 (pr 3 4))) (fiatP topQ 2 1 (pr 3 4)).told (ofK (evS (fun j => kk (one1 84 j)) (fun j => kk (fiatD topQ 2 1 (pr 3 4) (one1 84) (fiatP topQ 2 1 (pr 3 4)) j)) ((partsQ topQ).lg 0))) (fun j => kk (pr 3 4 j)) := by
  have h := fiat_yes top_right 2 1 (pr 3 4)
  have e : fiatD topQ 2 1 (pr 3 4) (valsQ topQ (pr 3 4) topQ.layers.length) (fiatP topQ 2 1 (pr 3 4)) = fiatD topQ 2 1 (pr 3 4) (one1 84) (fiatP topQ 2 1 (pr 3 4)) := by
    unfold fiatD ask1
    rw [top_askG]; rfl
  rw [e] at h
  rw [top_lg0, evS_zero] at h ⊢
  have e2 : valsQ topQ (pr 3 4) topQ.layers.length 0 = one1 84 0 := top_val 0 (by omega)
  rw [e2] at h
  exact h

set_option maxHeartbeats 2000000 in
set_option maxRecDepth 100000 in
theorem ttiny_any (w : World) :
    Calls Tryd.prog 36 #[] w fun e w' => ∃ (b : Nat) (A : Nat → Option Addr) (C : Nat → Nat), e = .returned (.agg #[.int .i64 1, .slice (some ⟨b, 0, none⟩) 2 2]) ∧ CRow w' (some ⟨b, 0, none⟩) topQ.layers A C ∧ Below w.heap.size w w' := by
  go_enter Tryd.func36, Tryd.ntmps36
  go_wp2_with fail
  refine bodyPost_ret (results_circ1 rfl rfl (by rw [World.cell?_alloc_old _ _ _ (by simp <;> omega), World.cell?_alloc_old _ _ _ (by simp <;> omega), World.cell?_alloc_old _ _ _ (by simp <;> omega), World.cell?_alloc_new]; rfl) (by rw [World.cell?_alloc_old _ _ _ (by simp <;> omega), World.cell?_alloc_old _ _ _ (by simp <;> omega), World.cell?_alloc_old _ _ _ (by simp <;> omega), World.cell?_alloc_new]; rfl)) rfl ?_
  refine ⟨w.heap.size + 1 + 1 + 1, fun i => if i = 0 then some ⟨w.heap.size + 1, 0, none⟩ else some ⟨w.heap.size + 1 + 1, 0, none⟩, fun i => if i = 0 then 2 else 1, rfl, ?_, ((((Below.refl w.heap.size w).alloc (Nat.le_refl _) _).alloc (by simp) _).alloc (by simp; omega) _).alloc (by simp; omega) _⟩
  generalize hO1 : Obj.cells #[Value.int .i64 1, .slice (some ⟨w.heap.size + 1 + 1 + 1, 0, none⟩) 2 2] 24 = o1
  have s1 : (w.alloc o1).heap.size = w.heap.size + 1 := by simp
  generalize w.alloc o1 = w1 at s1 ⊢
  generalize hO2 : Obj.cells #[Value.bool true, .int .i64 0, .int .i64 1, .bool false, .int .i64 0, .int .i64 1] 67 = o2
  have s2 : (w1.alloc o2).heap.size = w.heap.size + 1 + 1 := by simp [s1]
  have g : ∀ j, (w1.alloc o2).cell? ⟨w.heap.size + 1, j, none⟩ = (#[Value.bool true, .int .i64 0, .int .i64 1, .bool false, .int .i64 0, .int .i64 1] : Array Value)[j]? := fun j => by
    rw [← hO2, ← s1, World.cell?_alloc_new]
  generalize w1.alloc o2 = w2 at s2 g ⊢
  generalize hO3 : Obj.cells #[Value.bool true, .int .i64 0, .int .i64 1] 67 = o3
  have s3 : (w2.alloc o3).heap.size = w.heap.size + 1 + 1 + 1 := by simp [s2]
  have k : ∀ j, (w2.alloc o3).cell? ⟨w.heap.size + 1 + 1, j, none⟩ = (#[Value.bool true, .int .i64 0, .int .i64 1] : Array Value)[j]? := fun j => by
    rw [← hO3, ← s2, World.cell?_alloc_new]
  have g3 : ∀ j, (w2.alloc o3).cell? ⟨w.heap.size + 1, j, none⟩ = (#[Value.bool true, .int .i64 0, .int .i64 1, .bool false, .int .i64 0, .int .i64 1] : Array Value)[j]? := fun j => by
    rw [World.cell?_alloc_old _ _ _ (by show w.heap.size + 1 ≠ w2.heap.size; omega)]; exact g j
  generalize w2.alloc o3 = w3 at s3 k g3 ⊢
  have hl : ∀ j, (w3.alloc (Obj.cells #[Value.int .i64 1, .slice (some ⟨w.heap.size + 1, 0, none⟩) 2 2, .int .i64 0, .slice (some ⟨w.heap.size + 1 + 1, 0, none⟩) 1 1] 70)).cell? ⟨w.heap.size + 1 + 1 + 1, j, none⟩ = (#[Value.int .i64 1, .slice (some ⟨w.heap.size + 1, 0, none⟩) 2 2, .int .i64 0, .slice (some ⟨w.heap.size + 1 + 1, 0, none⟩) 1 1] : Array Value)[j]? := fun j => by
    rw [← s3, World.cell?_alloc_new]
  have g' : ∀ j o, (w3.alloc o).cell? ⟨w.heap.size + 1, j, none⟩ = (#[Value.bool true, .int .i64 0, .int .i64 1, .bool false, .int .i64 0, .int .i64 1] : Array Value)[j]? := fun j o => by
    rw [World.cell?_alloc_old _ _ _ (by show w.heap.size + 1 ≠ w3.heap.size; omega)]; exact g3 j
  have k' : ∀ j o, (w3.alloc o).cell? ⟨w.heap.size + 1 + 1, j, none⟩ = (#[Value.bool true, .int .i64 0, .int .i64 1] : Array Value)[j]? := fun j o => by
    rw [World.cell?_alloc_old _ _ _ (by show w.heap.size + 1 + 1 ≠ w3.heap.size; omega)]; exact k j
  intro _
  refine ⟨_, _, rfl, fun i l hi => ?_⟩
  match i, hi with
  | 0, hi =>
    obtain rfl : (⟨1, [⟨true, 0, 1⟩, ⟨false, 0, 1⟩]⟩ : LQ) = l := by simpa [topQ] using hi
    refine ⟨(hl 0).trans rfl, (hl 1).trans rfl, fun _ => ⟨_, _, rfl, fun j q hq => ?_⟩, Nat.le_refl 2⟩
    match j, hq with
    | 0, hq =>
      obtain rfl : (⟨true, 0, 1⟩ : GQ) = q := by simpa using hq
      exact ⟨(g' 0 _).trans rfl, (g' 1 _).trans rfl, (g' 2 _).trans rfl⟩
    | 1, hq =>
      obtain rfl : (⟨false, 0, 1⟩ : GQ) = q := by simpa using hq
      exact ⟨(g' 3 _).trans rfl, (g' 4 _).trans rfl, (g' 5 _).trans rfl⟩
    | j + 2, hq => simp at hq
  | 1, hi =>
    obtain rfl : (⟨0, [⟨true, 0, 1⟩]⟩ : LQ) = l := by simpa [topQ] using hi
    refine ⟨(hl 2).trans rfl, (hl 3).trans rfl, fun _ => ⟨_, _, rfl, fun j q hq => ?_⟩, Nat.le_refl 1⟩
    match j, hq with
    | 0, hq =>
      obtain rfl : (⟨true, 0, 1⟩ : GQ) = q := by simpa using hq
      exact ⟨(k' 0 _).trans rfl, (k' 1 _).trans rfl, (k' 2 _).trans rfl⟩
    | j + 1, hq => simp at hq
  | i + 2, hi => simp [topQ] at hi

set_option maxHeartbeats 8000000 in
set_option maxRecDepth 100000 in
theorem said_any (w : World) (ht : Tab w) :
    Calls Tryd.prog 14 #[] w fun e w' => e = .returned (.bool true) ∧ Below w.heap.size w w' := by
  have HT := hid (fun W (h : Below w.heap.size w W) => ht.kept h ht.1)
  clear ht
  go_enter Tryd.func14, Tryd.ntmps14
  go_wp2_with fail
  refine (ttiny_any w).mono ?_
  rintro e w1 ⟨b1, A1, C1, rfl, hc1, hb1⟩
  have HB1 := hid hb1
  have HC1 := hid hc1
  clear hc1 hb1
  go_wp2_with fail
  have HPV : Hid (Calls Tryd.prog 7 #[.agg #[.int .i64 1, .slice (some ⟨b1, 0, none⟩) 2 2], .slice (some ⟨w1.heap.size, 0, none⟩) 2 2] (w1.alloc (.cells #[.int .u64 3, .int .u64 4] 33)) fun e w' => fproveOut topQ (pr 3 4) 2 2 1 (w1.alloc (.cells #[.int .u64 3, .int .u64 4] 33)) e w') := hid (by
    have hal := (Below.refl w1.heap.size w1).alloc (Nat.le_refl _) (.cells #[.int .u64 3, .int .u64 4] 33)
    exact fpv_ok topQ 1 b1 0 2 2 A1 C1 w1.heap.size 0 2 2 1 (pr 3 4) _ rfl rfl (HC1.out.kept hal) top_right (shl_pow (k := 1) (by omega)) (by decide) (by decide) (row_pair w1 3 4 _) (Nums_pr (by omega) (by omega) (by omega) (by omega)) (HT.out _ (bel_trans hal HB1.out)))
  refine (HPV.out).mono ?_
  rintro e w2 ⟨dk, PB, m, rfl, hrow, hpf, hlow, hfr, hb2⟩
  have hal := (Below.refl w2.heap.size w2).alloc (Nat.le_refl _) (.cells #[.slice (some ⟨PB, 0, none⟩) 2 2] 28)
  have HB3 := hid (bel_trans hal (bel_trans hb2 (bel_alloc _ HB1.out)))
  have HP3 := hid (hpf.kept hal)
  have HD3 : Hid (Row (w2.alloc (.cells #[.slice (some ⟨PB, 0, none⟩) 2 2] 28)) dk 0 1 (valsQ topQ (pr 3 4) 2)) := hid (hrow.kept hal (hrow.lt (by omega)))
  have HQ3 : Hid ((w2.alloc (.cells #[.slice (some ⟨PB, 0, none⟩) 2 2] 28)).cell? ⟨w2.heap.size, 0, none⟩ = some (.slice (some ⟨PB, 0, none⟩) 2 2)) := hid (by rw [World.cell?_alloc_new]; rfl)
  clear hrow hpf hlow hfr hb2 hal HB1 HC1 HPV
  go_wp2_with fail
  obtain ⟨Q, hQ⟩ : ∃ x, w2.heap.size = x := ⟨_, rfl⟩
  rw [hQ] at HQ3
  rw [hQ]
  clear hQ
  generalize w2.alloc (.cells #[.slice (some ⟨PB, 0, none⟩) 2 2] 28) = W3 at HB3 HP3 HD3 HQ3 ⊢
  have HV : Hid (∀ (q : Int) (r : Bool) (W' : World) (x1 x2 bT : Nat) (A : Nat → Option Addr) (C : Nat → Nat), (q = 84 ∧ r = true ∨ q = 85 ∧ r = false) → CRow W' (some ⟨bT, 0, none⟩) topQ.layers A C → Row W' x1 0 2 (pr 3 4) → Row W' x2 0 1 (one1 q) → Below W3.heap.size W3 W' → Calls Tryd.prog 9 #[.agg #[.int .i64 1, .slice (some ⟨bT, 0, none⟩) 2 2], .slice (some ⟨x1, 0, none⟩) 2 2, .slice (some ⟨x2, 0, none⟩) 1 1, .agg #[.slice (some ⟨PB, 0, none⟩) 2 2]] W' fun e w'' => e = .returned (.tuple #[.bool r, .int .i64 0]) ∧ Below W3.heap.size W3 w'') := hid (fun q r W' x1 x2 bT A C hq hcr h1 h2 hb => by
    have hq2 : 0 ≤ q ∧ q ≤ 18446744073709551615 := by rcases hq with ⟨h, _⟩ | ⟨h, _⟩ <;> omega
    refine (fvf_ok topQ 1 bT 0 2 2 A C x1 0 2 2 x2 0 1 1 (pr 3 4) (one1 q) (some ⟨PB, 0, none⟩) 2 2 (fiatP topQ 2 1 (pr 3 4)) m W' rfl rfl hcr top_right rfl (HP3.out.kept hb) (fiatP_nums _ _ _ _) (fiatP_shaped _ _ _ _) top_ends h1 (Nums_pr (by omega) (by omega) (by omega) (by omega)) h2 (Nums_one1 hq2.1 hq2.2) (HT.out _ (bel_trans hb HB3.out))).mono ?_
    rintro e w'' ⟨r', x, rfl, ⟨rfl, hr'⟩, hb'⟩
    refine ⟨?_, bel_trans hb' hb⟩
    rcases hq with ⟨rfl, rfl⟩ | ⟨rfl, rfl⟩
    · rw [hr'.2 top_yes]
    · cases r' with
      | false => rfl
      | true => exact absurd (top_just _ rfl _ _ _ (hr'.1 rfl)) top_ne)
  have hq := HQ3.out
  have HBS := hid (Below.refl W3.heap.size W3)
  go_cut [4, 5] (fun a6 a7 wx => a6 = .bool true ∧ a7 = .int .i64 0 ∧ Hid (Below W3.heap.size W3 wx))
  case first =>
    go_region_held3 (fun W => W.cell? ⟨Q, 0, none⟩ = some (.slice (some ⟨PB, 0, none⟩) 2 2)) (first | assumption | (refine keep_cell hq ?_; repeat (first | exact HBS.out | exact hbV | apply bel_alloc | refine bel_trans hbT ?_ | apply bel_drew))) (first
      | (go_at_call 36; refine (ttiny_any _).mono ?_; rintro e wT ⟨bT, AT, CT, rfl, hcT, hbT⟩)
      | (go_at_call 9; refine (HV.out 84 true _ _ _ _ AT CT (.inl ⟨rfl, rfl⟩) (by repeat (first | exact hcT | apply crow_old)) (by repeat (first | exact row_new2 (by simp) | apply row_old2 | refine row_bel2 hbT ?_)) (by repeat (first | exact row_new1 (by simp) | apply row_old1 | refine row_bel1 hbT ?_)) (by repeat (first | exact HBS.out | apply bel_alloc | refine bel_trans hbT ?_ | apply bel_drew))).mono ?_; rintro e wV ⟨rfl, hbV⟩))
    all_goals (go_wp2_with fail)
    all_goals go_meet
    all_goals exact ⟨rfl, rfl, hid hbV⟩
  case rest =>
    clear HBS
    obtain ⟨rfl, rfl, HBS⟩ := hcut
    go_wp2_with fail
    go_cut [6, 7] (fun a8 a9 wx => a8 = .bool false ∧ a9 = .int .i64 0 ∧ Hid (Below W3.heap.size W3 wx))
    case first =>
      go_region_held3 (fun W => W.cell? ⟨Q, 0, none⟩ = some (.slice (some ⟨PB, 0, none⟩) 2 2)) (first | assumption | (refine keep_cell hq ?_; repeat (first | exact HBS.out | exact hbV | apply bel_alloc | refine bel_trans hbT ?_ | apply bel_drew))) (first
        | (go_at_call 36; refine (ttiny_any _).mono ?_; rintro e wT ⟨bT, AT, CT, rfl, hcT, hbT⟩)
        | (go_at_call 9; refine (HV.out 85 false _ _ _ _ AT CT (.inr ⟨rfl, rfl⟩) (by repeat (first | exact hcT | apply crow_old)) (by repeat (first | exact row_new2 (by simp) | apply row_old2 | refine row_bel2 hbT ?_)) (by repeat (first | exact row_new1 (by simp) | apply row_old1 | refine row_bel1 hbT ?_)) (by repeat (first | exact HBS.out | apply bel_alloc | refine bel_trans hbT ?_ | apply bel_drew))).mono ?_; rintro e wV ⟨rfl, hbV⟩))
      all_goals (go_wp2_with fail)
      all_goals go_meet
      all_goals exact ⟨rfl, rfl, hid hbV⟩
    case rest =>
      clear HBS
      obtain ⟨rfl, rfl, HBS⟩ := hcut
      have HD4 := hid (HD3.out.kept HBS.out (HD3.out.lt (by omega)))
      have HB4 := hid (bel_trans HBS.out HB3.out)
      clear HV HD3 HB3 HBS HQ3 hq HP3
      have HEQ : Hid (∀ x1, Row (wc.alloc (.cells #[.int .u64 84] 33)) x1 0 1 (one1 84) → Calls Tryd.prog 10 #[.slice (some ⟨dk, 0, none⟩) 1 1, .slice (some ⟨x1, 0, none⟩) 1 1] (wc.alloc (.cells #[.int .u64 84] 33)) fun e w' => e = .returned (.bool true) ∧ Below wc.heap.size wc w') := hid (fun x1 hx => by
        have hal := (Below.refl wc.heap.size wc).alloc (Nat.le_refl _) (.cells #[.int .u64 84] 33)
        refine (equal_ok (some ⟨dk, 0, none⟩) (some ⟨x1, 0, none⟩) 1 1 1 _ _ _ (by omega) (PRow.of (HD4.out.kept hal (HD4.out.lt (by omega)))) (PRow.of hx) top_val).mono ?_
        rintro e w' ⟨rfl, hb⟩
        exact ⟨rfl, hal.trans (hb.mono hal.size)⟩)
      go_wp2_with (go_at_call 10; refine (HEQ.out _ (row_one wc 84 _)).mono ?_; rintro e w5 ⟨rfl, hb5⟩)
      go_ret
      exact ⟨rfl, bel_trans hb5 HB4.out⟩

/-- What the laws of the whole carry: the circuit, inputs, draws, values. -/
structure TpS (w W : World) (X : Nat) (g : Int) (v : Value) (BX N : Nat) (x : Nat → Int) (BD q : Nat) (d : Nat → Int) (V n dk M : Nat) (y : Nat → Int) : Prop where
  st : StW w W X g v
  x : Row W BX 0 N x
  d : Row W BD 0 q d
  cv : W.cell? ⟨V, n, none⟩ = some (.slice (some ⟨dk, 0, none⟩) M M)
  y : Row W dk 0 M y
  hN : 1 ≤ N
  hq : 1 ≤ q
  hM : 1 ≤ M
theorem TpS.next {w W W' : World} {X : Nat} {g : Int} {v : Value} {BX N : Nat} {x : Nat → Int} {BD q : Nat} {d : Nat → Int} {V n dk M : Nat} {y : Nat → Int} (h : TpS w W X g v BX N x BD q d V n dk M y) (hb : Below W.heap.size W W') : TpS w W' X g v BX N x BD q d V n dk M y :=
  ⟨h.st.next hb, h.x.kept hb (h.x.lt h.hN), h.d.kept hb (h.d.lt h.hq), keep_cell h.cv hb, h.y.kept hb (h.y.lt h.hM), h.hN, h.hq, h.hM⟩
/-- Four cells. -/
abbrev FourT (X V n Q : Nat) (u v d p : Value) (W : World) : Prop := W.cell? ⟨X, 0, none⟩ = some u ∧ W.cell? ⟨X, 1, none⟩ = some v ∧ W.cell? ⟨V, n, none⟩ = some d ∧ W.cell? ⟨Q, 0, none⟩ = some p
theorem FourT.kept {X V n Q : Nat} {u v d p : Value} {W W' : World} (h : FourT X V n Q u v d p W) (hb : Below W.heap.size W W') : FourT X V n Q u v d p W' := ⟨keep_cell h.1 hb, keep_cell h.2.1 hb, keep_cell h.2.2.1 hb, keep_cell h.2.2.2 hb⟩
theorem need_pos {c : CQ} (hc : c.right) : 1 ≤ needQ c := by
  have h := at_fits (c := c) (j := 0) (List.length_pos_iff.2 hc.some)
  omega

end Go.Proofs.YtoibgjkcdjodhaaDoor

/-
  A contract of the law TopInputs, for every circuit and all lists: it answers true.
-/
namespace Go.Proofs.YtoibgjkcdjodhaaDoor
open Go.RowKit
set_option linter.unusedVariables false
attribute [local go_sem ↓] Go.wp_at_zero Go.wp_at_succ

/-- A right proof, held with other inputs. -/
theorem inputs_iff {c : CQ} (hc : c.right) {n gn : Nat} (hn : c.layers.length = n) (hlg : (partsQ c).lg n = gn) (x y D : Nat → Int) (r : Bool)
    (h : r = true ↔ (partsQ c).holds D (rightP c x D).told (ofK (evS (fun j => kk (valsQ c x n j)) (fun j => kk (D j)) ((partsQ c).lg 0))) (fun j => kk (y j))) :
    (r == (ofK (evS (fun j => kk (x j)) (fun j => kk (zQ (partsQ c) D n j)) gn) == ofK (evS (fun j => kk (y j)) (fun j => kk (zQ (partsQ c) D n j)) gn))) = true := by
  have hz : (fun j => kk (zQ (partsQ c) D n j)) = (partsQ c).z D n := by funext j; exact kk_zQ _ _ _ _
  rw [hz]
  have h2 : r = true ↔ ofK (evS (fun j => kk (x j)) ((partsQ c).z D n) gn) = ofK (evS (fun j => kk (y j)) ((partsQ c).z D n) gn) := by
    rw [h, right_just hc, hn, hlg]
    constructor
    · rintro ⟨_, h⟩; rw [h]
    · intro h
      have := congrArg kk h
      rw [kk_ofK, kk_ofK] at this
      exact ⟨rfl, this.symm⟩
  by_cases e : ofK (evS (fun j => kk (x j)) ((partsQ c).z D n) gn) = ofK (evS (fun j => kk (y j)) ((partsQ c).z D n) gn)
  · rw [h2.2 e, beq_iff_eq.2 e]; rfl
  · have e2 : r = false := by
      cases r with
      | false => rfl
      | true => exact absurd (h2.1 rfl) e
    rw [e2, beq_eq_false_iff_ne.2 e]; rfl
/-- The last part's point, as numbers. -/
theorem zQ_last {c : CQ} {last gn s1 s2 : Nat} (hlg : (partsQ c).lg (last + 1) = gn) (D : Nat → Int) (h1 : (partsQ c).at last + gn = s1) (h2 : s1 + gn = s2) (j : Nat) : linQ (fun i => D ((partsQ c).at last + i)) (fun i => D (s1 + i)) (D s2) j = zQ (partsQ c) D (last + 1) j := by
  show _ = linQ (fun i => D ((partsQ c).at last + i)) (fun i => D ((partsQ c).at last + (partsQ c).lg (last + 1) + i)) (D ((partsQ c).at last + 2 * (partsQ c).lg (last + 1))) j
  rw [hlg, h1, show (partsQ c).at last + 2 * gn = s2 from by omega]

set_option maxHeartbeats 8000000 in
set_option maxRecDepth 100000 in
theorem tinp_any (c : CQ) (g : Int) (ao : Option Addr) (n cap : Nat) (A : Nat → Option Addr) (C : Nat → Nat) (ai ay ad : Option Addr) (ni ci ny cy nd cd : Nat) (fi fy fd : Nat → Int) (w : World) (ht : Tab w) (hn63 : n ≤ maxLen) (hg : c.log = g) (hn : c.layers.length = n) (hr : CRow w ao c.layers A C) (hi : PRow w ai ni fi) (vi : Nums fi) (hy : PRow w ay ny fy) (vy : Nums fy) (hd : PRow w ad nd fd) (vd : Nums fd) :
    Calls Tryd.prog 6 #[.agg #[.int .i64 g, .slice ao n cap], .slice ai ni ci, .slice ay ny cy, .slice ad nd cd] w fun e w' => e = .returned (.bool true) ∧ Below w.heap.size w w' := by

  have HS0 := hid (StW.start w g (.slice ao n cap) 24)
  have HHE := hid (fun W (h : Below w.heap.size w W) => said_any W (ht.kept h ht.1))
  have HSM := hid (fun W (h : Below w.heap.size w W) => small_top c g ao n cap A C W hn63 hg hn (hr.kept h))
  have HR := hid hr
  have HG := hid hg
  have HN := hid hn
  have HT := hid (fun W (h : Below w.heap.size w W) => ht.kept h ht.1)
  have HI := hid (And.intro hi vi)
  have HY := hid (And.intro hy vy)
  have HD := hid (And.intro hd vd)
  clear hr hg hn ht hi vi hd vd hy vy hn63
  go_enter Tryd.func6, Tryd.ntmps6
  go_wp2_with fail
  obtain ⟨X, hX⟩ : ∃ X, w.heap.size = X := ⟨_, rfl⟩
  rw [hX] at HS0
  rw [hX]
  clear hX
  generalize w.alloc (.cells #[.int .i64 g, .slice ao n cap] 24) = W0 at HS0 ⊢
  refine (HHE.out _ HS0.out.bel).mono ?_
  rintro e w1 ⟨rfl, hb⟩
  have HS1 := hid (HS0.out.next hb)
  clear hb HS0 HHE
  obtain ⟨z0, z1, zl⟩ := HS1.out.box
  go_wp2_with fail
  refine (HSM.out _ HS1.out.bel).mono ?_
  rintro e w2 ⟨r, rfl, hrt, hb⟩
  have HS2 := hid (HS1.out.next hb)
  clear hb HS1 z0 z1 zl HSM
  cases r with
  | false =>
    clear hrt
    go_wp2_with fail
    go_ret
    exact ⟨rfl, HS2.out.bel⟩
  | true =>
    have HC := hid (hrt rfl)
    clear hrt
    obtain ⟨b, off, rfl⟩ := right_addr HC.out HR.out
    obtain ⟨gn, N, rfl, gn4, sh, hN, N1, N16, hNk⟩ := right_nums HG.out HN.out HC.out
    have HNN := hid (And.intro hN hNk)
    have n4 : n ≤ 4 := by have := HC.out.few; have := HN.out; omega
    obtain ⟨q, hq⟩ : ∃ q, needQ c = q := ⟨_, rfl⟩
    have q40 : q ≤ 40 := by rw [← hq]; exact needQ_le HC.out
    have q1 : 1 ≤ q := by rw [← hq]; exact need_pos HC.out
    have HQ := hid hq
    have HSH := hid sh
    obtain ⟨M, hM⟩ : ∃ x, lenQ c n = x := ⟨_, rfl⟩
    have M1 : 1 ≤ M := by rw [← hM]; exact (lenQ_rng HC.out n (by rw [HN.out]; omega)).1
    have M16 : M ≤ 16 := by rw [← hM]; exact (lenQ_rng HC.out n (by rw [HN.out]; omega)).2
    have HM := hid hM
    clear hN hNk hq hM
    have HLG : Hid ((partsQ c).lg n = gn) := hid (lg_bot HN.out (by show c.log = _; rw [HG.out]))
    obtain ⟨z0, z1, zl⟩ := HS2.out.box
    have gn0 : (0 : Int) ≤ (gn : Int) := by omega
    have HWN : Hid (IntKind.i64.wrap ((2 : Int) ^ gn) = (N : Int)) := hid (by
      have h : N = 2 ^ gn := by rw [← HLG.out]; exact HNN.out.2
      rw [show ((2 : Int) ^ gn) = ((2 ^ gn : Nat) : Int) from by simp, ← h]
      exact IntWalk.i64_in _ (by omega))
    have HZ1 : Hid (Calls Tryd.prog 16 #[.slice ai ni ci, .int .i64 (IntKind.i64.wrap ((2 : Int) ^ gn))] w2.drew fun e w' => e = .returned (.slice (some ⟨w2.heap.size, 0, none⟩) N N) ∧ Made w2.drew w' N (padF ni fi)) := hid (by rw [HWN.out]; exact sized_any ai ni ci N fi w2.drew (by omega) (HI.out.1.kept HS2.out.bel).drew)
    have HZ2 : Hid (∀ W, Below w2.heap.size w2 W → Calls Tryd.prog 16 #[.slice ay ny cy, .int .i64 (IntKind.i64.wrap ((2 : Int) ^ gn))] W fun e w' => e = .returned (.slice (some ⟨W.heap.size, 0, none⟩) N N) ∧ Made W w' N (padF ny fy)) := hid (fun W h => by rw [HWN.out]; exact sized_any ay ny cy N fy W (by omega) (HY.out.1.kept (HS2.out.next h).bel))
    have mark : True := trivial
    go_wp2_with fail
    go_region_held3 (fun W => W.cell? ⟨X, 0, none⟩ = some (.int .i64 (gn : Int))) (first | assumption | exact zx1 | exact zx2) (first
      | (go_at_call 16; first | (clear mark; refine (HZ1.out).mono ?_; rintro e w3a ⟨rfl, hma⟩; have hb3 : Below w2.heap.size w2 w3a := (Below.refl _ w2).drew.trans hma.below; have HRA : Hid (Row w3a w2.heap.size 0 N (padF ni fi)) := hid hma.row; have zx1 := keep_cell z0 hb3; clear hma) | (refine (HZ2.out w3a hb3).mono ?_; rintro e w3 ⟨rfl, hmb⟩; have hb4 : Below w3a.heap.size w3a w3 := hmb.below; have HRB : Hid (Row w3 w3a.heap.size 0 N (padF ny fy)) := hid hmb.row; have zx2 := keep_cell zx1 hb4; clear hmb)))
    have HS3 := hid ((HS2.out.next hb3).next hb4)
    have HX3 := hid (HRA.out.kept hb4 (HRA.out.lt N1))
    have HY3 := hid HRB.out
    obtain ⟨BX, hBX⟩ : ∃ x, w2.heap.size = x := ⟨_, rfl⟩
    rw [hBX] at HX3
    rw [hBX]
    obtain ⟨BY, hBY⟩ : ∃ x, w3a.heap.size = x := ⟨_, rfl⟩
    rw [hBY] at HY3
    rw [hBY]
    clear hBX hBY hb3 hb4 HRA HRB zx1 zx2 HZ1 HZ2 HS2 z0 z1 zl
    obtain ⟨z0, z1, zl⟩ := HS3.out.box
    go_wp2_with fail
    refine (run_ok c gn b off n cap A C BX 0 N N (padF ni fi) w3 HG.out HN.out (HR.out.kept HS3.out.bel) HC.out HSH.out HNN.out.1 N16 N1 HX3.out (Nums_pad HI.out.2 _)).mono ?_
    rintro e w4 ⟨V, Dv, rfl, hO⟩
    have HS4 := hid (HS3.out.next hO.below)
    have HX4 := hid (HX3.out.kept hO.below (HX3.out.lt N1))
    have HY4 := hid (HY3.out.kept hO.below (HY3.out.lt N1))
    have cv := hO.cell n (by omega)
    have rv := hO.row n (by omega)
    obtain ⟨dk, hdk⟩ : ∃ x, Dv n = x := ⟨_, rfl⟩
    rw [HM.out, hdk] at cv rv
    have HV4 := hid (And.intro cv rv)
    clear hO hdk cv rv HS3 HX3 HY3 z0 z1 zl
    obtain ⟨z0, z1, zl⟩ := HS4.out.box
    go_wp2_with fail
    refine (draws_ok c gn b off n cap A C w4 HG.out HN.out (HR.out.kept HS4.out.bel) HC.out).mono ?_
    rintro e w5 ⟨rfl, hb⟩
    rw [HQ.out]
    have HS5 := hid (HS4.out.next hb)
    have HX5 := hid (HX4.out.kept hb (HX4.out.lt N1))
    have HY5 := hid (HY4.out.kept hb (HY4.out.lt N1))
    have HV5 := hid (And.intro (keep_cell HV4.out.1 hb) (HV4.out.2.kept hb (HV4.out.2.lt M1)))
    clear hb HS4 HX4 HY4 HV4 z0 z1 zl
    go_wp2_with fail
    refine (sized_any ad nd cd q fd w5 (by omega) (HD.out.1.kept HS5.out.bel)).mono ?_
    rintro e w6 ⟨rfl, hm⟩
    have HD6 : Hid (Row w6 w5.heap.size 0 q (padF nd fd)) := hid hm.row
    obtain ⟨BD, hBD⟩ : ∃ x, w5.heap.size = x := ⟨_, rfl⟩
    rw [hBD] at HD6
    rw [hBD]
    have HP6 : Hid (TpS w w6 X (gn : Int) (.slice (some ⟨b, off, none⟩) n cap) BX N (padF ni fi) BD q (padF nd fd) V n dk M (valsQ c (padF ni fi) n)) := hid ⟨HS5.out.next hm.below, HX5.out.kept hm.below (HX5.out.lt N1), HD6.out, keep_cell HV5.out.1 hm.below, HV5.out.2.kept hm.below (HV5.out.2.lt M1), N1, q1, M1⟩
    have HY6 := hid (HY5.out.kept hm.below (HY5.out.lt N1))
    clear hm hBD HS5 HX5 HY5 HV5 HD6
    obtain ⟨z0, z1, zl⟩ := HP6.out.st.box
    go_wp2_with fail
    refine (pv_ok c gn b off n cap A C BX 0 N N (padF ni fi) BD 0 q q (padF nd fd) w6 HG.out HN.out (HR.out.kept HP6.out.st.bel) HC.out HSH.out HNN.out.1 HP6.out.x (Nums_pad HI.out.2 _) HP6.out.d (Nums_pad HD.out.2 _) HQ.out.symm (Nat.le_refl _) (Nat.le_trans q40 (by decide)) (HT.out _ HP6.out.st.bel)).mono ?_
    rintro e w7 ⟨PB, m, rfl, hpf, hlow, hb⟩
    have hal := (Below.refl w7.heap.size w7).alloc (Nat.le_refl _) (.cells #[.slice (some ⟨PB, 0, none⟩) n n] 28)
    have HP8 := hid ((HP6.out.next hb).next hal)
    have HF8 := hid (hpf.kept hal)
    have HQ8 : Hid ((w7.alloc (.cells #[.slice (some ⟨PB, 0, none⟩) n n] 28)).cell? ⟨w7.heap.size, 0, none⟩ = some (.slice (some ⟨PB, 0, none⟩) n n)) := hid (by rw [World.cell?_alloc_new]; rfl)
    have HY8 := hid ((HY6.out.kept hb (HY6.out.lt N1)).kept hal (Nat.lt_of_lt_of_le (HY6.out.lt N1) hb.size))
    clear hpf hlow hb hal HP6 HY6 z0 z1 zl
    go_wp2_with fail
    obtain ⟨BQ, hBQ⟩ : ∃ x, w7.heap.size = x := ⟨_, rfl⟩
    rw [hBQ] at HQ8
    rw [hBQ]
    clear hBQ
    generalize w7.alloc (.cells #[.slice (some ⟨PB, 0, none⟩) n n] 28) = W8 at HP8 HF8 HQ8 HY8 ⊢
    have HEN : Hid (endsQ c N M) := hid ⟨by rw [HN.out]; exact HNN.out.2, by rw [← HM.out]; exact top_len HN.out⟩
    have HVF : Hid (∀ W, Below W8.heap.size W8 W → Calls Tryd.prog 19 #[.agg #[.int .i64 (gn : Int), .slice (some ⟨b, off, none⟩) n cap], .slice (some ⟨BY, 0, none⟩) N N, .slice (some ⟨dk, 0, none⟩) M M, .agg #[.slice (some ⟨PB, 0, none⟩) n n], .slice (some ⟨BD, 0, none⟩) q q] W fun e w' => verOut ((partsQ c).holds (padF nd fd) (rightP c (padF ni fi) (padF nd fd)).told (ofK (evS (fun j => kk (valsQ c (padF ni fi) n j)) (fun j => kk (padF nd fd j)) ((partsQ c).lg 0))) (fun j => kk (padF ny fy j))) W e w') := hid (fun W h => by
      have hS := HP8.out.next h
      exact vf_ok c (gn : Int) b off n cap A C BY 0 N N dk 0 M M (padF ny fy) (valsQ c (padF ni fi) n) (some ⟨PB, 0, none⟩) n n (rightP c (padF ni fi) (padF nd fd)) m BD 0 q q (padF nd fd) W HG.out HN.out (HR.out.kept hS.st.bel) HC.out HN.out (HF8.out.kept h) (rightP_nums _ _ _) (rightP_shaped _ _ _) HEN.out (HY8.out.kept h (HY8.out.lt N1)) (Nums_pad HY.out.2 _) hS.y (Nums_vals c _ n) hS.d (Nums_pad HD.out.2 _) HQ.out.symm (Nat.le_refl _) (Nat.le_trans q40 (by decide)) (HT.out _ hS.st.bel))
    have HFC : Hid (FourT X V n BQ (.int .i64 (gn : Int)) (.slice (some ⟨b, off, none⟩) n cap) (.slice (some ⟨dk, 0, none⟩) M M) (.slice (some ⟨PB, 0, none⟩) n n) W8) := hid ⟨HP8.out.st.box.c0, HP8.out.st.box.c1, HP8.out.cv, HQ8.out⟩
    have n0 : (0 : Int) ≤ (n : Int) := by omega
    have n1 : (n : Int) < (n : Int) + 1 := by omega
    have n2 : IntKind.i64.wrap ((n : Int) + 1 - 1) = (n : Int) := by rw [show (n : Int) + 1 - 1 = (n : Int) from by omega]; exact IntWalk.i64_in _ (by omega)
    have n3 : IntKind.i64.wrap (n : Int) = (n : Int) := IntWalk.i64_in _ (by omega)
    have n5 : n < n + 1 := by omega
    have nc := HFC.out
    go_region_held3 (FourT X V n BQ (.int .i64 (gn : Int)) (.slice (some ⟨b, off, none⟩) n cap) (.slice (some ⟨dk, 0, none⟩) M M) (.slice (some ⟨PB, 0, none⟩) n n)) (first | assumption | exact nca) (first
      | (go_at_call 19; refine (HVF.out _ (Below.refl _ W8).drew).mono ?_; rintro e wa ⟨r, rfl, hrr, hb⟩; have hba : Below W8.heap.size W8 wa := (Below.refl _ W8).drew.trans hb; have nca := nc.kept hba; clear hb))
    have HUV0 := hid (inputs_iff HC.out HN.out HLG.out (padF ni fi) (padF ny fy) (padF nd fd) r hrr)
    have HPA := hid (HP8.out.next hba)
    have HYA := hid (HY8.out.kept hba (HY8.out.lt N1))
    clear nc nca hba hrr HFC HVF HP8 HF8 HQ8 HY8 n0 n1 n2 n3 n5
    obtain ⟨last, hlast⟩ : ∃ m, n = m + 1 := ⟨n - 1, by have := List.length_pos_iff.2 HC.out.some; have := HN.out; omega⟩
    obtain ⟨s0, hs0⟩ : ∃ x, (partsQ c).at last = x := ⟨_, rfl⟩
    obtain ⟨s1, hs1⟩ : ∃ x, s0 + gn = x := ⟨_, rfl⟩
    obtain ⟨s2, hs2⟩ : ∃ x, s1 + gn = x := ⟨_, rfl⟩
    have hq2 : q = s2 + 1 := by
      have h1 : needQ c = (partsQ c).at last + 2 * (partsQ c).lg (last + 1) + 1 := by
        unfold needQ
        rw [HN.out, hlast]; rfl
      rw [HQ.out, ← hlast, HLG.out, hs0] at h1
      omega
    have HZQ : Hid (∀ j, linQ (fun i => padF nd fd (s0 + i)) (fun i => padF nd fd (s1 + i)) (padF nd fd s2) j = zQ (partsQ c) (padF nd fd) n j) := hid (fun j => by
      have h := zQ_last (c := c) (last := last) (gn := gn) (s1 := s1) (s2 := s2) (by rw [← hlast]; exact HLG.out) (padF nd fd) (by rw [hs0]; exact hs1) hs2 j
      rw [hs0, ← hlast] at h
      exact h)
    have HSS := hid (And.intro hs1 (And.intro hs2 hq2))
    have e0 : (q : Int) - 1 = (s2 : Int) := by omega
    have e1 : (s2 : Int) - (gn : Int) = (s1 : Int) := by omega
    have e2 : (s2 : Int) - 2 * (gn : Int) = (s0 : Int) := by omega
    have w0 : IntKind.i64.wrap ((q : Int) - 1) = (s2 : Int) := by rw [e0]; exact IntWalk.i64_in _ (by omega)
    have w1' : IntKind.i64.wrap ((s2 : Int) - (gn : Int)) = (s1 : Int) := by rw [e1]; exact IntWalk.i64_in _ (by omega)
    have w2' : IntKind.i64.wrap (2 * (gn : Int)) = 2 * (gn : Int) := IntWalk.i64_in _ (by omega)
    have w3' : IntKind.i64.wrap ((s2 : Int) - 2 * (gn : Int)) = (s0 : Int) := by rw [e2]; exact IntWalk.i64_in _ (by omega)
    have b0 : (0 : Int) ≤ (s0 : Int) := by omega
    have b1 : (s0 : Int) ≤ (s1 : Int) := by omega
    have b2 : (s1 : Int) ≤ (q : Int) := by omega
    have b3 : (0 : Int) ≤ (s1 : Int) := by omega
    have b4 : (s1 : Int) ≤ (s2 : Int) := by omega
    have b5 : (s2 : Int) ≤ (q : Int) := by omega
    have b6 : (0 : Int) ≤ (s2 : Int) := by omega
    have b7 : (s2 : Int) < (q : Int) := by omega
    have b8 : s2 < q := by omega
    have d1 : s1 - s0 = gn := by omega
    have d2 : s2 - s1 = gn := by omega
    have d3 : ¬ q = s0 := by omega
    have d4 : ¬ q = s1 := by omega
    have ct := HPA.out.d s2 (by omega)
    rw [Nat.zero_add] at ct
    obtain ⟨tau, htau⟩ : ∃ x, padF nd fd s2 = x := ⟨_, rfl⟩
    have htr := Nums_pad HD.out.2 nd s2
    rw [htau] at ct htr HZQ
    obtain ⟨tau0, tau1⟩ := htr
    clear hq2 hs1 hs2 hs0 htau hlast
    obtain ⟨z0, z1, zl⟩ := HPA.out.st.box
    go_wp2_with fail
    go_quiet (fail)
    have HPQ : Hid (TpS w (wa.drewN nq) X (gn : Int) (.slice (some ⟨b, off, none⟩) n cap) BX N (padF ni fi) BD q (padF nd fd) V n dk M (valsQ c (padF ni fi) n)) := hid (HPA.out.next ⟨rfl, rfl, rfl, Nat.le_refl _, fun _ _ => rfl⟩)
    have HYQ : Hid (Row (wa.drewN nq) BY 0 N (padF ny fy)) := hid HYA.out
    clear HPA HYA z0 z1 zl ct e0 e1 e2 w0 w1' w2' w3' b0 b1 b2 b3 b4 b5 b6 b7 b8 d1 d2 d3 d4
    generalize wa.drewN nq = wq at HPQ HYQ ⊢
    have hmk := run_make_row' (P := Tryd.prog) 25 33 (.int .u64 0) 8 Tryd.underlying25 Tryd.infoO rfl .i64 .i64 gn (by omega) (by omega)
    go_wp2_with fail
    clear hmk
    go_loopg [120] gn (fun q' i wr => ∃ t : Nat, t ≤ gn ∧ q' = gn - t ∧ i = .int .i64 (t : Int) ∧ Hid (Made wq wr gn (fun j => if j < t then linQ (fun i => padF nd fd (s0 + i)) (fun i => padF nd fd (s1 + i)) tau j else 0)))
    case atStart => exact ⟨0, by omega, rfl, rfl, hid ((Made.start wq gn 33).congr fun j _ => by rw [if_neg (by omega)])⟩
    case round =>
      obtain ⟨t, ht, rfl, rfl, HM9⟩ := hrel
      have HPW := hid (HPQ.out.next HM9.out.below)
      by_cases htl : t < gn
      · have c1 := HPW.out.d (s0 + t) (by have := HSS.out; omega)
        have c2 := HPW.out.d (s1 + t) (by have := HSS.out; omega)
        rw [Nat.zero_add] at c1 c2
        have c3 := HM9.out.cell t htl
        have f3 := HM9.out.frozen t htl
        rw [if_neg (by omega)] at c3
        obtain ⟨xa, hxa⟩ : ∃ x, padF nd fd (s0 + t) = x := ⟨_, rfl⟩
        obtain ⟨xb, hxb⟩ : ∃ x, padF nd fd (s1 + t) = x := ⟨_, rfl⟩
        obtain ⟨a0, a1⟩ := Nums_pad HD.out.2 nd (s0 + t)
        obtain ⟨y0, y1⟩ := Nums_pad HD.out.2 nd (s1 + t)
        rw [hxa] at c1 a0 a1
        rw [hxb] at c2 y0 y1
        have HXA := hid (And.intro hxa hxb)
        obtain ⟨r1, r2⟩ := subQ_rng xb xa
        obtain ⟨r3, r4⟩ := mulQ_rng tau (subQ xb xa)
        clear hxa hxb
        have t0 : (0 : Int) ≤ (t : Int) := by omega
        have t1 : (t : Int) < (gn : Int) := by omega
        go_wp2_with fail
        refine wp_region_still_tail 19 Tryd.mixed (by kernel_rfl) ?_
        simp only [List.take_succ_cons, List.take_zero, List.drop_succ_cons, List.drop_zero]
        iterate 15 still_step
        still_call (sub_any xb xa _ (by omega) (by omega) (by omega) (by omega))
        still_call (mul_any tau (subQ xb xa) _ (by omega) (by omega) (by omega) (by omega))
        still_call (add_any xa (mulQ tau (subQ xb xa)) _ (by omega) (by omega) (by omega) (by omega))
        still_step
        refine wpStill_nil ?_
        go_wp2_with fail
        go_roundg (gn - (t + 1))
        case measure => go_light; omega
        case rel => exact ⟨t + 1, by omega, rfl, by go_num, hid ((HM9.out.drew.store t _ htl).congr fun j _ => bet_step (fun i => padF nd fd (s0 + i)) (fun i => padF nd fd (s1 + i)) tau xa xb t j HXA.out.1 HXA.out.2)⟩
      · have e : t = gn := by omega
        have t1 : ¬ ((t : Int) < (gn : Int)) := by omega
        have HZR : Hid (Row wr wq.heap.size 0 gn (zQ (partsQ c) (padF nd fd) n)) := hid (HM9.out.row.congr fun j hj => by rw [if_pos (by omega)]; exact HZQ.out j)
        have HYW := hid (HYQ.out.kept HM9.out.below (HYQ.out.lt N1))
        have HNG : Hid (N = 2 ^ gn) := hid (by rw [← HLG.out]; exact HNN.out.2)
        obtain ⟨u, hu⟩ : ∃ u, ofK (evS (fun j => kk (padF ni fi j)) (fun j => kk (zQ (partsQ c) (padF nd fd) n j)) gn) = u := ⟨_, rfl⟩
        obtain ⟨v, hv⟩ : ∃ v, ofK (evS (fun j => kk (padF ny fy j)) (fun j => kk (zQ (partsQ c) (padF nd fd) n j)) gn) = v := ⟨_, rfl⟩
        have HUV := hid HUV0.out
        rw [hu, hv] at HUV
        obtain ⟨BZ, hBZ⟩ : ∃ x, wq.heap.size = x := ⟨_, rfl⟩
        have hzk : ∀ W, Below wr.heap.size wr W → PRow W (some ⟨wq.heap.size, 0, none⟩) gn (zQ (partsQ c) (padF nd fd) n) := fun W h => (PRow.of HZR.out).kept h
        have HEU : Hid (Calls Tryd.prog 26 #[.slice (some ⟨BX, 0, none⟩) N N, .slice (some ⟨wq.heap.size, 0, none⟩) gn gn] wr fun e w' => e = .returned (.tuple #[.int .u64 u, .int .i64 0]) ∧ Below wr.heap.size wr w') := hid (by
          rw [← hu]
          exact eval_ok BX 0 gn N N gn (some ⟨wq.heap.size, 0, none⟩) (padF ni fi) (zQ (partsQ c) (padF nd fd) n) wr (by omega) HNG.out (HT.out _ HPW.out.st.bel) HPW.out.x (Nums_pad HI.out.2 _) (hzk wr (Below.refl _ wr)) (Nums_zQ (Nums_pad HD.out.2 _) _ _))
        have HEV : Hid (∀ W, Below wr.heap.size wr W → Calls Tryd.prog 26 #[.slice (some ⟨BY, 0, none⟩) N N, .slice (some ⟨wq.heap.size, 0, none⟩) gn gn] W fun e w' => e = .returned (.tuple #[.int .u64 v, .int .i64 0]) ∧ Below W.heap.size W w') := hid (fun W h => by
          rw [← hv]
          exact eval_ok BY 0 gn N N gn (some ⟨wq.heap.size, 0, none⟩) (padF ny fy) (zQ (partsQ c) (padF nd fd) n) W (by omega) HNG.out (HT.out _ (HPW.out.next h).st.bel) (HYW.out.kept h (HYW.out.lt N1)) (Nums_pad HY.out.2 _) (hzk W h) (Nums_zQ (Nums_pad HD.out.2 _) _ _))
        clear hu hv hzk HZR HUV0 hBZ
        have huv := HUV.out
        have HBW := hid HPW.out.st.bel
        go_wp2_with fail
        refine (HEU.out).mono ?_
        rintro e wx ⟨rfl, hbx⟩
        go_wp2_with fail
        refine (HEV.out wx hbx).mono ?_
        rintro e wy ⟨rfl, hby⟩
        have HBB := hid (bel_trans hby (bel_trans hbx HBW.out))
        clear hbx hby
        go_wp2_with fail
        go_ret
        exact ⟨rfl, HBB.out⟩

end Go.Proofs.YtoibgjkcdjodhaaDoor
