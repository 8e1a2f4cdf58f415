/-
  Several texts in one: CircOpen, RefPf1, RefFi0, RefDr, RefDr2, RefFi1, Equal, RefSp, Gkp1, Fis1; each opens with what it holds.
-/
import Derived.Test.YtmjpcmeinlkfbaaDoorChecked
import Derived.Test.YtmjpcmeinlkfbaaDoorCirc
import Derived.OpenShut
import Derived.Deep.Strs
import Derived.Deep.SlicePairs
import Derived.Test.YtmjpcmeinlkfbaaDoorMRef
import Derived.Test.YtmjpcmeinlkfbaaDoorMOpA
import Derived.Test.YtmjpcmeinlkfbaaDoorMOpB
import Derived.Deep.RegionHeld3
import Derived.Deep.RegionLaw
import Derived.Test.YtmjpcmeinlkfbaaDoorMFiat
import Derived.Test.YtmjpcmeinlkfbaaDoorOwn
import Derived.Deep.RegionWith
import Derived.Deep.LoopGhost
import Derived.Deep.Light
import Derived.Deep.DrawnRows
import Derived.Test.YtmjpcmeinlkfbaaDoorPrf
import Derived.Test.YtmjpcmeinlkfbaaDoorCircM
import Derived.Test.YtmjpcmeinlkfbaaDoorMGkB
import Derived.Test.YtmjpcmeinlkfbaaDoorLawS
import Derived.Test.YtmjpcmeinlkfbaaDoorFiatX
import Derived.BigQuiet
/-
  What a circuit that came in gives the walk.
-/
namespace Go.Proofs.YtmjpcmeinlkfbaaDoor
open Go.ChangeShapes Go.WideShapes Go.RowKit Go.Deep
set_option linter.unusedVariables false

/-- Numbers of Go's int. -/
def I64 (a : Int) : Prop := -9223372036854775808 ≤ a ∧ a ≤ 9223372036854775807
theorem i64_of_wf {a : Int} (h : (Lit.int .i64 a).wf = true) : I64 a := by
  simp [Lit.wf, IntKind.min, IntKind.max, IntKind.signed, IntKind.bits] at h
  unfold I64
  omega
/-- A circuit that came in. -/
structure IsCirc (w : World) (g : Int) (a : Option Addr) (len cap : Nat) (c : CQ) (A : Nat → Option Addr) (C : Nat → Nat) : Prop where
  log : c.log = g
  logR : I64 g
  lenE : c.layers.length = len
  capE : len ≤ cap
  maxE : cap ≤ maxLen
  row : CRow w a c.layers A C
  rng : ∀ l ∈ c.layers, I64 l.log ∧ l.gates.length ≤ maxLen ∧ ∀ q ∈ l.gates, I64 q.a ∧ I64 q.b
theorem add_three (a : Addr) (i j : Nat) : (a.add (i * 3)).add j = a.add (3 * i + j) := by rw [add_add, Nat.mul_comm]
theorem add_two (a : Addr) (i j : Nat) : (a.add (i * 2)).add j = a.add (2 * i + j) := by rw [add_add, Nat.mul_comm]
theorem gate_cells : Tryd.prog.cellsOf 69 = 3 := by kernel_rfl
theorem layer_cells : Tryd.prog.cellsOf 50 = 2 := by kernel_rfl
theorem circ_cells : Tryd.prog.cellsOf 24 = 2 := by kernel_rfl
theorem int_cells : Tryd.prog.cellsOf 3 = 1 := by kernel_rfl
theorem bool_cells : Tryd.prog.cellsOf 4 = 1 := by kernel_rfl
theorem gates_cells : Tryd.prog.cellsOf 48 = 1 := by kernel_rfl
theorem layers_cells : Tryd.prog.cellsOf 22 = 1 := by kernel_rfl
theorem cell_spot {w : World} {a : Addr} {u : Value} (h : w.cell? (a.add 0) = some u) : ∃ b off, a = ⟨b, off, none⟩ := by
  obtain ⟨b, off, spot⟩ := a
  have hspot : spot = none := by simpa [Addr.add] using World.cell?_spot h
  subst hspot
  exact ⟨b, off, rfl⟩

section
variable {H : Type} {enc : TypeId × Value → H} {W : World} {base : Nat} {held : Bool}
set_option maxRecDepth 100000 in
theorem gates_of {fuel : Nat} {a : Option Addr} {len cap : Nat} {x : DataW H × List MemPlace}
    (h : DataW.trod enc Tryd.prog W base (fun _ => true) held fuel 48 [Value.slice a len cap] = some x) :
    ∃ gs : List GQ, gs.length = len ∧ len ≤ cap ∧ len ≤ maxLen ∧ GRow W a gs ∧ ∀ g ∈ gs, I64 g.a ∧ I64 g.b := by
  rcases open_slice Tryd.underlying48 h with ⟨hcs, _⟩ | ⟨a', len', cap', m, n, D, Pl, hcs, _, hl, hm, hmm, _, hx⟩
  · simp at hcs
    obtain ⟨rfl, rfl, rfl⟩ := hcs
    exact ⟨[], rfl, Nat.le_refl _, Nat.zero_le _, fun h => absurd rfl h, by simp⟩
  · simp at hcs
    obtain ⟨rfl, rfl, rfl⟩ := hcs
    simp only [if_true] at hmm
    have each : ∀ i, i < len → ∃ g : GQ, W.cell? (a'.add (3 * i)) = some (.bool g.mul) ∧ W.cell? (a'.add (3 * i + 1)) = some (.int .i64 g.a) ∧ W.cell? (a'.add (3 * i + 2)) = some (.int .i64 g.b) ∧ I64 g.a ∧ I64 g.b := by
      intro i hi
      obtain ⟨cs', h1, h2⟩ := hx i (by omega)
      rw [gate_cells] at h1
      obtain ⟨_, hlen, hcell⟩ := World.cells?_some h1
      obtain ⟨y0, y1, y2, k, _, _, g0, g1, g2⟩ := trod_struct3 Tryd.underlying69 h2
      match cs', hlen with
      | [v0, v1, v2], _ =>
        simp [int_cells, bool_cells] at g0 g1 g2
        obtain ⟨b, e0, _⟩ := DataW.trod_bool Tryd.underlying4 g0
        obtain ⟨p, e1, _, r1⟩ := DataW.trod_int Tryd.underlying3 g1
        obtain ⟨q, e2, _, r2⟩ := DataW.trod_int Tryd.underlying3 g2
        simp at e0 e1 e2
        subst e0
        subst e1
        subst e2
        have c0 := hcell 0 (by omega)
        have c1 := hcell 1 (by omega)
        have c2 := hcell 2 (by omega)
        rw [add_three] at c0 c1 c2
        exact ⟨⟨b, p, q⟩, by simpa using c0, by simpa using c1, by simpa using c2, i64_of_wf r1, i64_of_wf r2⟩
    haveI : Inhabited GQ := ⟨⟨false, 0, 0⟩⟩
    obtain ⟨f, hf⟩ := choose_lt each
    have hg : ∀ j g, ((List.range len).map f)[j]? = some g → j < len ∧ g = f j := by
      intro j g e
      by_cases hj : j < len
      · simp [hj] at e; exact ⟨hj, e.symm⟩
      · simp [hj] at e
    refine ⟨(List.range len).map f, by simp, hl, Nat.le_trans hl hm, fun hne => ?_, fun g hg2 => ?_⟩
    · have h0 : 0 < len := by
        rcases Nat.eq_zero_or_pos len with e | e
        · rw [e] at hne; simp at hne
        · exact e
      obtain ⟨b, off, rfl⟩ := cell_spot (by simpa using (hf 0 h0).1)
      refine ⟨b, off, rfl, fun j g e => ?_⟩
      obtain ⟨hj, rfl⟩ := hg j g e
      obtain ⟨c0, c1, c2, _⟩ := hf j hj
      rw [Addr.add_lit] at c0 c1 c2
      exact ⟨c0, c1, c2⟩
    · obtain ⟨j, hj, rfl⟩ := List.mem_map.1 hg2
      exact (hf j (List.mem_range.1 hj)).2.2.2
set_option maxRecDepth 100000 in
theorem layers_of {fuel : Nat} {a : Option Addr} {len cap : Nat} {x : DataW H × List MemPlace}
    (h : DataW.trod enc Tryd.prog W base (fun _ => true) held fuel 22 [Value.slice a len cap] = some x) :
    ∃ (ls : List LQ) (A : Nat → Option Addr) (C : Nat → Nat), ls.length = len ∧ len ≤ cap ∧ cap ≤ maxLen ∧ CRow W a ls A C ∧ ∀ l ∈ ls, I64 l.log ∧ l.gates.length ≤ maxLen ∧ ∀ q ∈ l.gates, I64 q.a ∧ I64 q.b := by
  rcases open_slice Tryd.underlying22 h with ⟨hcs, _⟩ | ⟨a', len', cap', m, n, D, Pl, hcs, _, hl, hm, hmm, _, hx⟩
  · simp at hcs
    obtain ⟨rfl, rfl, rfl⟩ := hcs
    exact ⟨[], fun _ => none, fun _ => 0, rfl, Nat.le_refl _, Nat.zero_le _, fun h => absurd rfl h, by simp⟩
  · simp at hcs
    obtain ⟨rfl, rfl, rfl⟩ := hcs
    simp only [if_true] at hmm
    have each : ∀ i, i < len → ∃ y : LQ × Option Addr × Nat, W.cell? (a'.add (2 * i)) = some (.int .i64 y.1.log) ∧ W.cell? (a'.add (2 * i + 1)) = some (.slice y.2.1 y.1.gates.length y.2.2) ∧ GRow W y.2.1 y.1.gates ∧ y.1.gates.length ≤ y.2.2 ∧
        I64 y.1.log ∧ y.1.gates.length ≤ maxLen ∧ ∀ q ∈ y.1.gates, I64 q.a ∧ I64 q.b := by
      intro i hi
      obtain ⟨cs', h1, h2⟩ := hx i (by omega)
      rw [layer_cells] at h1
      obtain ⟨_, hlen, hcell⟩ := World.cells?_some h1
      obtain ⟨y0, y1, k, _, _, g0, g1⟩ := trod_struct2 Tryd.underlying50 h2
      match cs', hlen with
      | [v0, v1], _ =>
        simp [int_cells, gates_cells] at g0 g1
        obtain ⟨p, e0, _, r0⟩ := DataW.trod_int Tryd.underlying3 g0
        simp at e0
        subst e0
        obtain ⟨ga, gl, gc, rfl⟩ : ∃ ga gl gc, v1 = .slice ga gl gc := by
          rcases open_slice Tryd.underlying48 g1 with ⟨e, _⟩ | ⟨_, _, _, _, _, _, _, e, _⟩
          · simp at e; exact ⟨_, _, _, e⟩
          · simp at e; exact ⟨_, _, _, e⟩
        obtain ⟨gs, e1, e2, e3, e4, e5⟩ := gates_of g1
        have c0 := hcell 0 (by omega)
        have c1 := hcell 1 (by omega)
        rw [add_two] at c0 c1
        exact ⟨(⟨p, gs⟩, ga, gc), by simpa using c0, by simpa [e1] using c1, e4, by rw [e1]; exact e2, i64_of_wf r0, by rw [e1]; exact e3, e5⟩
    haveI : Inhabited (LQ × Option Addr × Nat) := ⟨(⟨0, []⟩, none, 0)⟩
    obtain ⟨f, hf⟩ := choose_lt each
    have hg : ∀ j g, ((List.range len).map fun i => (f i).1)[j]? = some g → j < len ∧ g = (f j).1 := by
      intro j g e
      by_cases hj : j < len
      · simp [hj] at e; exact ⟨hj, e.symm⟩
      · simp [hj] at e
    refine ⟨(List.range len).map fun i => (f i).1, fun i => (f i).2.1, fun i => (f i).2.2, by simp, hl, hm, fun hne => ?_, fun g hg2 => ?_⟩
    · have h0 : 0 < len := by
        rcases Nat.eq_zero_or_pos len with e | e
        · rw [e] at hne; simp at hne
        · exact e
      obtain ⟨b, off, rfl⟩ := cell_spot (by simpa using (hf 0 h0).1)
      refine ⟨b, off, rfl, fun j g e => ?_⟩
      obtain ⟨hj, rfl⟩ := hg j g e
      obtain ⟨c0, c1, c2, c3, _⟩ := hf j hj
      rw [Addr.add_lit] at c0 c1
      exact ⟨c0, c1, c2, c3⟩
    · obtain ⟨j, hj, rfl⟩ := List.mem_map.1 hg2
      exact (hf j (List.mem_range.1 hj)).2.2.2.2
set_option maxRecDepth 100000 in
theorem circ_val {v : Value} {d : DataW H} {p : List MemPlace} (hv : Value.okWide Tryd.prog W .any base 24 v) (h : DataW.Trod enc Tryd.prog W 0 (fun _ => true) true 24 v d p) :
    ∃ g a len cap, v = .agg #[.int .i64 g, .slice a len cap] := by
  obtain ⟨cs, rfl, hs⟩ := okWide_struct Tryd.underlying24 hv
  obtain ⟨fuel, hf⟩ := h
  obtain ⟨y0, y1, k, _, _, g0, g1⟩ := trod_struct2 Tryd.underlying24 hf
  rw [circ_cells] at hs
  obtain ⟨l⟩ := cs
  match l, hs with
  | [v0, v1], _ =>
    simp [Value.cells, int_cells, layers_cells] at g0 g1
    obtain ⟨p, e0, _, _⟩ := DataW.trod_int Tryd.underlying3 g0
    simp at e0
    subst e0
    rcases open_slice Tryd.underlying22 g1 with ⟨e, _⟩ | ⟨_, _, _, _, _, _, _, e, _⟩
    · simp at e; exact ⟨_, _, _, _, by rw [e]⟩
    · simp at e; exact ⟨_, _, _, _, by rw [e]⟩
set_option maxRecDepth 100000 in
theorem circ_of {g : Int} {a : Option Addr} {len cap : Nat} {d : DataW H} {p : List MemPlace} (h : DataW.Trod enc Tryd.prog W 0 (fun _ => true) true 24 (.agg #[.int .i64 g, .slice a len cap]) d p) :
    ∃ c A C, IsCirc W g a len cap c A C := by
  obtain ⟨fuel, hf⟩ := h
  obtain ⟨y0, y1, k, _, _, g0, g1⟩ := trod_struct2 Tryd.underlying24 hf
  simp [Value.cells, int_cells, layers_cells] at g0 g1
  obtain ⟨p, e0, _, r0⟩ := DataW.trod_int Tryd.underlying3 g0
  simp at e0
  subst e0
  obtain ⟨ls, A, C, e1, e2, e3, e4, e5⟩ := layers_of g1
  exact ⟨⟨g, ls⟩, A, C, rfl, i64_of_wf r0, e1, e2, e3, e4, e5⟩
end

end Go.Proofs.YtmjpcmeinlkfbaaDoor

/-
  A contract of tallyref's Proof, of a right circuit, inputs and draws of the right lengths: it tells the right proof; nothing that was there is written.
-/
namespace Go.Proofs.YtmjpcmeinlkfbaaDoor
open Go.RowKit
set_option linter.unusedVariables false
attribute [local go_sem ↓] Go.wp_at_zero Go.wp_at_succ

/-- All that holds of the world from layer to layer. -/
structure PfS (w W : World) (X : Nat) (g : Int) (v vP : Value) (t : Nat) (p : PQ) (m : PM) : Prop where
  bel : Below w.heap.size w W
  hX : w.heap.size = X
  box : Box2 W X (.int .i64 g) v
  x6 : W.cell? ⟨X + 1, 0, none⟩ = some (.slice none 0 0)
  f6 : W.frozen? ⟨X + 1, 0, none⟩ = false
  x7 : W.cell? ⟨X + 1 + 1, 0, none⟩ = some vP
  f7 : W.frozen? ⟨X + 1 + 1, 0, none⟩ = false
  lo : X + 1 + 1 < W.heap.size
  parts : PartsS W (X + 1 + 1 + 1) vP t p m
theorem PfS.next {w W W' : World} {X : Nat} {g : Int} {v vP : Value} {t : Nat} {p : PQ} {m : PM} (h : PfS w W X g v vP t p m) (hb : Below W.heap.size W W') : PfS w W' X g v vP t p m := by
  have l6 := World.block_lt_of_cell? W _ h.x6
  have l7 := World.block_lt_of_cell? W _ h.x7
  exact ⟨h.bel.trans (hb.mono h.bel.size), h.hX, h.box.kept hb, (hb.cell l6).trans h.x6, (hb.frozen l6).trans h.f6, (hb.cell l7).trans h.x7, (hb.frozen l7).trans h.f7, Nat.lt_of_lt_of_le h.lo hb.size, h.parts.keep (Kp.of hb)⟩
theorem PfS.start (w : World) (g : Int) (v : Value) (t0 t1 t2 : TypeId) (p : PQ) (m : PM) : PfS w (((w.alloc (.cells #[.int .i64 g, v] t0)).alloc (.cells #[.slice none 0 0] t1)).alloc (.cells #[.slice none 0 0] t2)) w.heap.size g v (.slice none 0 0) 0 p m := by
  have b0 := nbel w (.cells #[.int .i64 g, v] t0)
  have h0 := Box2.new w (.int .i64 g) v t0
  have e0 : (w.alloc (.cells #[.int .i64 g, v] t0)).heap.size = w.heap.size + 1 := by simp
  generalize w.alloc (.cells #[.int .i64 g, v] t0) = W0 at b0 h0 e0 ⊢
  have b1 := nbel W0 (.cells #[.slice none 0 0] t1)
  have c1 : (W0.alloc (.cells #[.slice none 0 0] t1)).cell? ⟨W0.heap.size, 0, none⟩ = some (.slice none 0 0) := by rw [World.cell?_alloc_new]; rfl
  have f1 : (W0.alloc (.cells #[.slice none 0 0] t1)).frozen? ⟨W0.heap.size, 0, none⟩ = false := World.frozen?_alloc_new _ _ _ _
  have e1 : (W0.alloc (.cells #[.slice none 0 0] t1)).heap.size = w.heap.size + 1 + 1 := by simp; omega
  generalize W0.alloc (.cells #[.slice none 0 0] t1) = W1 at b1 c1 f1 e1 ⊢
  have b2 := nbel W1 (.cells #[.slice none 0 0] t2)
  have c2 : (W1.alloc (.cells #[.slice none 0 0] t2)).cell? ⟨W1.heap.size, 0, none⟩ = some (.slice none 0 0) := by rw [World.cell?_alloc_new]; rfl
  have f2 : (W1.alloc (.cells #[.slice none 0 0] t2)).frozen? ⟨W1.heap.size, 0, none⟩ = false := World.frozen?_alloc_new _ _ _ _
  rw [e1] at c2 f2
  rw [e0] at c1 f1
  have l1 := World.block_lt_of_cell? W1 _ c1
  exact ⟨b0.trans ((b1.trans (b2.mono b1.size)).mono b0.size), rfl, (h0.kept b1).kept b2, (b2.cell l1).trans c1, (b2.frozen l1).trans f1, c2, f2, by simp; omega, PartsS.nil _ _ _ _⟩
theorem own_some {w : World} {base : Nat} {v : Value} {n : Nat} {f : Nat → Int} (h : Own w base v n f) (hn : 0 < n) : ∃ b c, v = .slice (some ⟨b, 0, none⟩) n c ∧ n ≤ c ∧ Row w b 0 n f ∧ base ≤ b ∧ b < w.heap.size := by
  have hl := h
  rcases h.2 with ⟨_, h0⟩ | ⟨b, cap, cur, rfl, hb, hh, hle, _⟩
  · omega
  · obtain ⟨ao, c, e, hp, _⟩ := hl.is
    obtain ⟨b2, o2, e2, hr⟩ := hp hn
    cases e
    cases e2
    exact ⟨b, cap, rfl, hle, hr, hb, (Array.getElem?_eq_some_iff.1 hh).1⟩
theorem joined_xy {W : World} (B : Nat) (ad av ab : Option Addr) (j m' k2 c0 c1 c2 : Nat) (d : Nat → Int) (v bb : Nat) (h0 : W.cell? ⟨B, 0, none⟩ = some (.slice ad j c0)) (h1 : W.cell? ⟨B, 1, none⟩ = some (.slice av 1 c1)) (h2 : W.cell? ⟨B, 2, none⟩ = some (.slice ab m' c2)) (p0 : PRow W ad j d) (p1 : PRow W av 1 (fun _ => (v : Int))) (p2 : PRow W ab m' (bitF bb m')) (hk : j + 1 + m' = k2) (hk8 : k2 ≤ 8) :
    Calls Tryd.prog 37 #[.slice (some ⟨B, 0, none⟩) 3 3] W fun e w' => ∃ bj cj, e = .returned (.slice (some ⟨bj, 0, none⟩) k2 cj) ∧ k2 ≤ cj ∧ Row w' bj 0 k2 (xyF d j v m' bb) ∧ Below W.heap.size W w' := by
  refine (joined_three B 3 ad av ab j c0 1 c1 m' c2 d (fun _ => (v : Int)) (bitF bb m') W h0 h1 h2 p0 p1 p2 (by omega) (by omega) (by omega)).mono ?_
  rintro e w' ⟨vj, rfl, ho, hb⟩
  rw [hk] at ho
  obtain ⟨bj, cj, rfl, hle, hr, _, _⟩ := own_some ho (by omega)
  exact ⟨bj, cj, rfl, hle, hr, hb⟩
theorem one_num (w : World) (x : Int) (t : TypeId) : PRow (w.alloc (.cells #[.int .u64 x] t)) (some ⟨w.heap.size, 0, none⟩) 1 (fun _ => x) := PRow.of fun j hj => by
  rw [Nat.zero_add, World.cell?_alloc_new]
  match j, hj with
  | 0, _ => rfl
theorem three_cells (W : World) (x y z : Value) (t : TypeId) : (W.alloc (.cells #[x, y, z] t)).cell? ⟨W.heap.size, 0, none⟩ = some x ∧ (W.alloc (.cells #[x, y, z] t)).cell? ⟨W.heap.size, 1, none⟩ = some y ∧ (W.alloc (.cells #[x, y, z] t)).cell? ⟨W.heap.size, 2, none⟩ = some z :=
  ⟨by rw [World.cell?_alloc_new]; rfl, by rw [World.cell?_alloc_new]; rfl, by rw [World.cell?_alloc_new]; rfl⟩
theorem corn_joinA {wr w5 : World} {t t2 : TypeId} {ad ab : Option Addr} {j m' k2 c0 cb : Nat} {d : Nat → Int} {v bb : Nat} (hpd : PRow wr ad j d) (hb : Below (wr.alloc (.cells #[.int .u64 (v : Int)] t)).drew.heap.size (wr.alloc (.cells #[.int .u64 (v : Int)] t)).drew w5) (hpb : PRow w5 ab m' (bitF bb m')) (hk : j + 1 + m' = k2) (hk8 : k2 ≤ 8) :
    Calls Tryd.prog 37 #[.slice (some ⟨w5.heap.size, 0, none⟩) 3 3] (w5.alloc (.cells #[.slice ad j c0, .slice (some ⟨wr.heap.size, 0, none⟩) 1 1, .slice ab m' cb] t2)) fun e w' => ∃ bj cj, e = .returned (.slice (some ⟨bj, 0, none⟩) k2 cj) ∧ k2 ≤ cj ∧ Row w' bj 0 k2 (xyF d j v m' bb) ∧ Below wr.heap.size wr w' := by
  have b0 := nbel wr (.cells #[.int .u64 (v : Int)] t)
  have p1 := one_num wr (v : Int) t
  have b1 : Below wr.heap.size wr w5 := b0.drew.trans (hb.mono b0.drew.size)
  have p5 : PRow w5 (some ⟨wr.heap.size, 0, none⟩) 1 (fun _ => (v : Int)) := (p1.kept (Below.refl _ _).drew).kept hb
  have b2 := nbel w5 (.cells #[.slice ad j c0, .slice (some ⟨wr.heap.size, 0, none⟩) 1 1, .slice ab m' cb] t2)
  obtain ⟨h0, h1, h2⟩ := three_cells w5 (.slice ad j c0) (.slice (some ⟨wr.heap.size, 0, none⟩) 1 1) (.slice ab m' cb) t2
  refine (joined_xy w5.heap.size ad (some ⟨wr.heap.size, 0, none⟩) ab j m' k2 c0 1 cb d v bb h0 h1 h2 ((hpd.kept b1).kept b2) (p5.kept b2) (hpb.kept b2) hk hk8).mono ?_
  rintro e w' ⟨bj, cj, he, hc, hr, hb3⟩
  have b3 := b1.trans (b2.mono b1.size)
  exact ⟨bj, cj, he, hc, hr, b3.trans (hb3.mono b3.size)⟩
theorem corn_joinB {wr w5 : World} {t t2 : TypeId} {ad ab : Option Addr} {j m' k2 c0 cb : Nat} {d : Nat → Int} {v bb : Nat} (hpd : PRow wr ad j d) (hb : Below wr.drew.heap.size wr.drew w5) (hpb : PRow w5 ab m' (bitF bb m')) (hk : j + 1 + m' = k2) (hk8 : k2 ≤ 8) :
    Calls Tryd.prog 37 #[.slice (some ⟨w5.heap.size + 1, 0, none⟩) 3 3] ((w5.alloc (.cells #[.int .u64 (v : Int)] t)).alloc (.cells #[.slice ad j c0, .slice (some ⟨w5.heap.size, 0, none⟩) 1 1, .slice ab m' cb] t2)) fun e w' => ∃ bj cj, e = .returned (.slice (some ⟨bj, 0, none⟩) k2 cj) ∧ k2 ≤ cj ∧ Row w' bj 0 k2 (xyF d j v m' bb) ∧ Below wr.heap.size wr w' := by
  have b1 : Below wr.heap.size wr w5 := (Below.refl _ wr).drew.trans hb
  have b0 := nbel w5 (.cells #[.int .u64 (v : Int)] t)
  have p1 := one_num w5 (v : Int) t
  have es : (w5.alloc (.cells #[.int .u64 (v : Int)] t)).heap.size = w5.heap.size + 1 := by simp
  generalize w5.alloc (.cells #[.int .u64 (v : Int)] t) = W6 at b0 p1 es ⊢
  rw [← es]
  have b2 := nbel W6 (.cells #[.slice ad j c0, .slice (some ⟨w5.heap.size, 0, none⟩) 1 1, .slice ab m' cb] t2)
  obtain ⟨h0, h1, h2⟩ := three_cells W6 (.slice ad j c0) (.slice (some ⟨w5.heap.size, 0, none⟩) 1 1) (.slice ab m' cb) t2
  refine (joined_xy W6.heap.size ad (some ⟨w5.heap.size, 0, none⟩) ab j m' k2 c0 1 cb d v bb h0 h1 h2 (((hpd.kept b1).kept b0).kept b2) (p1.kept b2) ((hpb.kept b0).kept b2) hk hk8).mono ?_
  rintro e w' ⟨bj, cj, he, hc, hr, hb3⟩
  have b3 := b1.trans ((b0.trans (b2.mono b0.size)).mono b1.size)
  exact ⟨bj, cj, he, hc, hr, b3.trans (hb3.mono b3.size)⟩
/-- A part's box, while its rounds are told. -/
structure RnQ (w3 W : World) (Y : Nat) (vR : Value) (j : Nat) (A : Nat → Option Addr) (C : Nat → Nat) (F : Nat → Nat → Int) : Prop where
  bel : Below w3.heap.size w3 W
  hY : w3.heap.size = Y
  lt : Y + 1 ≤ W.heap.size
  c0 : W.cell? ⟨Y, 0, none⟩ = some vR
  f0 : W.frozen? ⟨Y, 0, none⟩ = false
  c1 : W.cell? ⟨Y, 1, none⟩ = some (.slice none 0 0)
  f1 : W.frozen? ⟨Y, 1, none⟩ = false
  rs : RndS W (Y + 1) vR j A (fun _ => 3) C F
theorem RnQ.next {w3 W W' : World} {Y : Nat} {vR : Value} {j : Nat} {A : Nat → Option Addr} {C : Nat → Nat} {F : Nat → Nat → Int} (h : RnQ w3 W Y vR j A C F) (hb : Below W.heap.size W W') : RnQ w3 W' Y vR j A C F := by
  have l := World.block_lt_of_cell? W _ h.c0
  have l1 := World.block_lt_of_cell? W _ h.c1
  exact ⟨h.bel.trans (hb.mono h.bel.size), h.hY, Nat.le_trans h.lt hb.size, (hb.cell l).trans h.c0, (hb.frozen l).trans h.f0, (hb.cell l1).trans h.c1, (hb.frozen l1).trans h.f1, h.rs.keep (Kp.of hb)⟩
theorem RnQ.start (w3 : World) (t : TypeId) (A : Nat → Option Addr) (C : Nat → Nat) (F : Nat → Nat → Int) : RnQ w3 (w3.alloc (.cells #[.slice none 0 0, .slice none 0 0] t)) w3.heap.size (.slice none 0 0) 0 A C F :=
  ⟨nbel _ _, rfl, by simp, by rw [World.cell?_alloc_new]; rfl, World.frozen?_alloc_new _ _ _ _, by rw [World.cell?_alloc_new]; rfl, World.frozen?_alloc_new _ _ _ _, ⟨OwnV.nil _ _ _ _ _ _, fun i hi => absurd hi (by omega)⟩⟩

theorem grown_at {W W' : World} {o : Option Nat} (hg : W.grownBy W' o) {a : Addr} {v : Value} (h : W.cell? a = some v) (hn : o ≠ some a.block) : W'.cell? a = some v ∧ W'.frozen? a = W.frozen? a := by
  have hb := hg.block a.block (World.block_lt_of_cell? W _ h) (fun e => hn e.symm)
  exact ⟨(World.cell?_of_block hb).trans h, by unfold World.frozen?; rw [hb]⟩
theorem RndS.same {W : World} {base : Nat} {v : Value} {n : Nat} {A : Nat → Option Addr} {L L' C : Nat → Nat} {F F' : Nat → Nat → Int} (h : RndS W base v n A L C F) (eL : ∀ i, i < n → L i = L' i) (eF : ∀ i j, i < n → j < L i → F i j = F' i j) : RndS W base v n A L' C F' :=
  ⟨h.ov.congr (fun _ _ => rfl) eL (fun _ _ => rfl) eF, h.lo⟩
/-- One round more. -/
theorem RnQ.put {w3 wr w6 : World} {Y : Nat} {vR : Value} {j : Nat} {AR : Nat → Option Addr} {CR : Nat → Nat} {F : Nat → Nat → Int} {g c6 bu cu : Nat} {ob : Obj} (h : RnQ w3 wr Y vR j AR CR F)
    (ho : w6.ownsRow (Y + 1) 25 1 (.slice (some ⟨g, 0, none⟩) (j + 1) c6) (j + 1) (slv j AR (fun _ => 3) CR ++ [.slice (some ⟨bu, 0, none⟩) 3 cu])) (hg : (wr.alloc ob).grownBy w6 vR.ownBlock) (hat : vR.ownBlock = some g ∨ g = wr.heap.size + 1)
    (hbu : Y + 1 ≤ bu ∧ bu < wr.heap.size ∧ vR.ownBlock ≠ some bu) (hr : Row wr bu 0 3 (F j)) :
    (w6.cell? ⟨Y, 0, none⟩ = some vR ∧ w6.frozen? ⟨Y, 0, none⟩ = false) ∧ RnQ w3 (w6.setCell ⟨Y, 0, none⟩ (.slice (some ⟨g, 0, none⟩) (j + 1) c6)) Y (.slice (some ⟨g, 0, none⟩) (j + 1) c6) (j + 1) (putO AR j (some ⟨bu, 0, none⟩)) (putA CR j cu) F := by
  have b0 := nbel wr ob
  have h1 := h.next b0
  have hs : (wr.alloc ob).heap.size = wr.heap.size + 1 := by simp
  have hr1 := hr.kept b0 hbu.2.1
  have hlow : ∀ k, vR.ownBlock = some k → Y + 1 ≤ k := fun k hk => (World.ownsRow.lt h.rs.ov.own k hk).1
  have hne : vR.ownBlock ≠ some Y := fun e => by have := hlow Y e; omega
  obtain ⟨c0, f0⟩ := grown_at hg h1.c0 hne
  obtain ⟨c1, f1⟩ := grown_at hg h1.c1 hne
  rw [h1.f0] at f0
  rw [h1.f1] at f1
  refine ⟨⟨c0, f0⟩, ?_⟩
  have hb6 : Below w3.heap.size w3 w6 := h1.bel.grown hg (by have := h1.bel.size; omega) (fun k hk => by have := hlow k hk; have := h.hY; omega)
  have rs6 := h1.rs.next ho hg (by rw [hs]; exact hat) (by rw [hs]; omega) hbu.1 hbu.2.2 hr1
  have rs7 : RndS w6 (Y + 1) (.slice (some ⟨g, 0, none⟩) (j + 1) c6) (j + 1) (putO AR j (some ⟨bu, 0, none⟩)) (fun _ => 3) (putA CR j cu) F := rs6.same (fun i hi => by unfold putA; by_cases e : i = j; rw [if_pos e]; rw [if_neg e]) (fun i q hi hq => by
    unfold putF
    by_cases e : i = j
    · rw [if_pos e, e]
    · rw [if_neg e])
  refine ⟨hb6.trans (((ButS.refl (fun c => c = Y) w6).set (b := Y) (q := 0) rfl _).below (fun k hk => by rw [show k = Y from hk, h.hY]; exact Nat.le_refl _) hb6.size), h.hY, by rw [World.size_setCell]; exact Nat.le_trans (Nat.le_trans h.lt b0.size) hg.size, World.cell?_setCell_same _ _ _ c0, by rw [World.frozen?_setCell]; exact f0, (World.cell?_setCell_other _ _ _ _ (by intro e; simp only [Addr.mk.injEq] at e; omega)).trans c1, by rw [World.frozen?_setCell]; exact f1, rs7.keep (Kp.set _ _ _ (by omega))⟩

/-- A part's box, while its line is told. -/
structure LnQ (L0 W : World) (Y : Nat) (vR vL : Value) (s : Nat) (F : Nat → Int) : Prop where
  but : ButS (fun c => c = Y) L0 W
  lt : Y < L0.heap.size
  c0 : W.cell? ⟨Y, 0, none⟩ = some vR
  c1 : W.cell? ⟨Y, 1, none⟩ = some vL
  f1 : W.frozen? ⟨Y, 1, none⟩ = false
  own : Own W L0.heap.size vL s F
theorem LnQ.next {L0 W W' : World} {Y : Nat} {vR vL : Value} {s : Nat} {F : Nat → Int} (h : LnQ L0 W Y vR vL s F) (hb : Below W.heap.size W W') : LnQ L0 W' Y vR vL s F :=
  ⟨h.but.trans (ButS.of hb), h.lt, nkeep hb h.c0, nkeep hb h.c1, (hb.frozen (World.block_lt_of_cell? W _ h.c1)).trans h.f1, h.own.kept hb⟩
theorem LnQ.kp {L0 W : World} {Y : Nat} {vR vL : Value} {s : Nat} {F : Nat → Int} (h : LnQ L0 W Y vR vL s F) : Kp (Y + 1) L0 W := ⟨h.but.size, fun b hb hl => h.but.block b hl (fun e => by have e : b = Y := e; omega)⟩
theorem LnQ.bel {w3 L0 W : World} {Y : Nat} {vR vL : Value} {s : Nat} {F : Nat → Int} (h : LnQ L0 W Y vR vL s F) (hb : Below w3.heap.size w3 L0) (hY : w3.heap.size = Y) : Below w3.heap.size w3 W :=
  hb.trans (h.but.below (fun k hk => by rw [show k = Y from hk, hY]; exact Nat.le_refl _) hb.size)
theorem LnQ.put {L0 wr w6 : World} {Y : Nat} {vR vL : Value} {s : Nat} {F : Nat → Int} {g c6 : Nat} {x : Int} {t : TypeId} (h : LnQ L0 wr Y vR vL s F)
    (ho : w6.ownsRow L0.heap.size 45 1 (.slice (some ⟨g, 0, none⟩) (s + 1) c6) (s + 1) (cellsOf s F ++ [.int .u64 x])) (hg : (wr.alloc (.cells #[.int .u64 x] t)).grownBy w6 vL.ownBlock) (hx : x = F s) :
    (w6.cell? ⟨Y, 1, none⟩ = some vL ∧ w6.frozen? ⟨Y, 1, none⟩ = false) ∧ LnQ L0 (w6.setCell ⟨Y, 1, none⟩ (.slice (some ⟨g, 0, none⟩) (s + 1) c6)) Y vR (.slice (some ⟨g, 0, none⟩) (s + 1) c6) (s + 1) F := by
  have b0 := nbel wr (.cells #[.int .u64 x] t)
  have h1 := h.next b0
  have hlow : ∀ k, vL.ownBlock = some k → L0.heap.size ≤ k := fun k hk => (World.ownsRow.lt h.own k hk).1
  have hne : vL.ownBlock ≠ some Y := fun e => by have := hlow Y e; have := h.lt; omega
  obtain ⟨c0, _⟩ := grown_at hg h1.c0 hne
  obtain ⟨c1, f1⟩ := grown_at hg h1.c1 hne
  rw [h1.f1] at f1
  have hb6 : ButS (fun c => c = Y) L0 w6 := ⟨hg.os.trans h1.but.os, hg.tape.trans h1.but.tape, hg.output.trans h1.but.output, Nat.le_trans h1.but.size hg.size, fun k hk hn => (hg.block k (Nat.lt_of_lt_of_le hk h1.but.size) (fun e => by have := hlow k e.symm; omega)).trans (h1.but.block k hk hn)⟩
  have ho6 : Own w6 L0.heap.size (.slice (some ⟨g, 0, none⟩) (s + 1) c6) (s + 1) F := by
    rw [cellsOf_snoc] at ho
    exact Own.congr ho fun j hj => by
      unfold catF
      by_cases e : j < s
      · rw [if_pos e]
      · rw [if_neg e, show j = s from by omega]; exact hx
  exact ⟨⟨c1, f1⟩, hb6.set rfl _, h.lt, (World.cell?_setCell_other _ _ _ _ (by intro e; simp only [Addr.mk.injEq] at e; omega)).trans c0, World.cell?_setCell_same _ _ _ c1, by rw [World.frozen?_setCell]; exact f1, (Kp.set L0.heap.size w6 _ h.lt).owns ho6⟩
theorem PfS.put {w W w6 : World} {X : Nat} {g : Int} {v vP : Value} {t : Nat} {p : PQ} {m : PM} {g6 c6 rc lc : Nat} {ra la : Option Addr} {A : Nat → Option Addr} {C : Nat → Nat} {ob : Obj} (h : PfS w W X g v vP t p m)
    (ho : w6.ownsRow (X + 1 + 1 + 1) 79 2 (.slice (some ⟨g6, 0, none⟩) (t + 1) c6) (t + 1) (pcsV (raV m p) (laV m p) t ++ [.slice ra (p.rn t) rc, .slice la (p.ln t) lc])) (hg : (W.alloc ob).grownBy w6 vP.ownBlock) (hat : vP.ownBlock = some g6 ∨ g6 = W.heap.size + 1)
    (hr : PartR W p (m.put t ra la rc lc A C) t) (hf : PartA (fun b => X + 1 + 1 + 1 ≤ b ∧ b < W.heap.size ∧ vP.ownBlock ≠ some b) p (m.put t ra la rc lc A C) t) :
    (w6.cell? ⟨X + 1 + 1, 0, none⟩ = some vP ∧ w6.frozen? ⟨X + 1 + 1, 0, none⟩ = false) ∧ PfS w (w6.setCell ⟨X + 1 + 1, 0, none⟩ (.slice (some ⟨g6, 0, none⟩) (t + 1) c6)) X g v (.slice (some ⟨g6, 0, none⟩) (t + 1) c6) (t + 1) p (m.put t ra la rc lc A C) := by
  have b0 := nbel W ob
  have h1 := h.next b0
  have hs : (W.alloc ob).heap.size = W.heap.size + 1 := by simp
  have hlow : ∀ k, vP.ownBlock = some k → X + 1 + 1 + 1 ≤ k := fun k hk => (World.ownsRow.lt h.parts.own k hk).1
  have ne7 : vP.ownBlock ≠ some (X + 1 + 1) := fun e => by have := hlow _ e; omega
  have ne6 : vP.ownBlock ≠ some (X + 1) := fun e => by have := hlow _ e; omega
  have ne3 : vP.ownBlock ≠ some X := fun e => by have := hlow _ e; omega
  obtain ⟨c7, f7⟩ := grown_at hg h1.x7 ne7
  obtain ⟨c6', f6'⟩ := grown_at hg h1.x6 ne6
  obtain ⟨d0, _⟩ := grown_at hg h1.box.c0 ne3
  obtain ⟨d1, _⟩ := grown_at hg h1.box.c1 ne3
  rw [h1.f7] at f7
  rw [h1.f6] at f6'
  have hr1 : PartR (W.alloc ob) p (m.put t ra la rc lc A C) t := hr.keep hf (fun b hb => b0.block b hb.2.1)
  have hf1 : PartA (fun b => X + 1 + 1 + 1 ≤ b ∧ b < (W.alloc ob).heap.size ∧ vP.ownBlock ≠ some b) p (m.put t ra la rc lc A C) t := hf.mono fun b hb => ⟨hb.1, by rw [hs]; omega, hb.2.2⟩
  have ps := h1.parts.next ho hg (by rw [hs]; exact hat) hr1 hf1
  have hb6 : Below w.heap.size w w6 := h1.bel.grown hg h1.bel.size (fun k hk => by have := hlow k hk; have := h.hX; omega)
  have l3 := World.block_lt_of_cell? w6 _ d0
  have of : ∀ q, q ≠ X + 1 + 1 → ∀ j z, (w6.setCell ⟨X + 1 + 1, 0, none⟩ z).cell? ⟨q, j, none⟩ = w6.cell? ⟨q, j, none⟩ := fun q hq j z => World.cell?_setCell_other _ _ _ _ (by intro e; simp only [Addr.mk.injEq] at e; omega)
  refine ⟨⟨c7, f7⟩, hb6.trans (((ButS.refl (fun c => c = X + 1 + 1) w6).set (b := X + 1 + 1) (q := 0) rfl _).below (fun k hk => by rw [show k = X + 1 + 1 from hk, h.hX]; omega) hb6.size), h.hX, ⟨(of X (by omega) 0 _).trans d0, (of X (by omega) 1 _).trans d1, by rw [World.size_setCell]; exact l3⟩, (of (X + 1) (by omega) 0 _).trans c6', by rw [World.frozen?_setCell]; exact f6', World.cell?_setCell_same _ _ _ c7, by rw [World.frozen?_setCell]; exact f7, by rw [World.size_setCell]; exact Nat.lt_of_lt_of_le h1.lo hg.size, ps.keep (Kp.set _ _ _ (by omega))⟩
theorem results_one {fn : Func} {p : Tmp} {ty : TypeId} (h : fn.results = #[.cell p ty]) (tmps : Array Value) (P : Program) (w : World) :
    (results fn tmps).run P w = ((asAddr (tmps.getD p undef)).run P w).andThen fun a w₁ => (loadVar ty a).run P w₁ := by
  simp only [results, h]
  simp [Sem.run_bind, Result.andThen]
theorem results_prf1 {fn : Func} {p : Tmp} (h : fn.results = #[.cell p 33]) {tmps : Array Value} {w : World} {b : Nat} {x0 : Value} (hp : tmps.getD p undef = .pointer (some ⟨b, 0, none⟩)) (c0 : w.cell? ⟨b, 0, none⟩ = some x0) :
    (results fn tmps).run Tryd.prog w = .ok (.agg #[x0]) w := by
  rw [results_one h, hp]
  simp [asAddr, Result.andThen, load_prf c0]

theorem PfRow.keepS {w w' : World} {ao : Option Addr} {p : PQ} {m : PM} {S : Nat → Prop} (h : PfRow w ao p m) (ha : ∀ a, ao = some a → S a.block) (hp : ∀ j, j < p.n → PartA S p m j) (hk : ∀ b, S b → w'.heap[b]? = w.heap[b]?) : PfRow w' ao p m := fun h0 => by
  obtain ⟨b, off, e, hr⟩ := h h0
  refine ⟨b, off, e, fun j hj => ?_⟩
  obtain ⟨h1, h2, h3, h4⟩ := hr j hj
  have h5 := PartR.keep (W := w) (W' := w') ⟨h3, h4⟩ (hp j hj) hk
  exact ⟨(World.cell?_of_block (hk b (ha _ e))).trans h1, (World.cell?_of_block (hk b (ha _ e))).trans h2, h5.1, h5.2⟩
/-- What Proof tells of right things. -/
def prfOut (c : CQ) (f D : Nat → Int) (n : Nat) (w : World) (e : Ending) (w' : World) : Prop := ∃ (ao : Option Addr) (cap : Nat) (m : PM), e = .returned (.agg #[.slice ao n cap]) ∧ PfRow w' ao (rightP c f D) m ∧ ((∀ a, ao = some a → w.heap.size ≤ a.block) ∧ ∀ j, j < n → PartA (fun q => w.heap.size ≤ q) (rightP c f D) m j) ∧ Below w.heap.size w w'
set_option maxHeartbeats 16000000 in
set_option maxRecDepth 100000 in
theorem rproof_any (c : CQ) (g : Int) (b off n cap : Nat) (A : Nat → Option Addr) (C : Nat → Nat) (bi oi N ci : Nat) (f : Nat → Int) (bd od nd cd : Nat) (D : Nat → Int) (w : World)
    (hg : c.log = g) (hn : c.layers.length = n) (hr : CRow w (some ⟨b, off, none⟩) c.layers A C) (hc : c.right) (hN : lenQ c 0 = N) (hi : Row w bi oi N f) (vi : Nums f) (hd : Row w bd od nd D) (vd : Nums D) (hnd : nd = needQ c) (hcd : nd ≤ cd) (hcm : cd ≤ maxLen) :
    Calls Tryd.prog 12 #[.agg #[.int .i64 g, .slice (some ⟨b, off, none⟩) n cap], .slice (some ⟨bi, oi, none⟩) N ci, .slice (some ⟨bd, od, none⟩) nd cd] w fun e w' => prfOut c f D n w e w' := by
  have n4 : n ≤ 4 := by have := hc.few; omega
  have n1 : 1 ≤ n := by have := List.length_pos_iff.2 hc.some; omega
  have nd40 : nd ≤ 40 := by rw [hnd]; exact needQ_le hc
  obtain ⟨last, rfl⟩ : ∃ m, n = m + 1 := ⟨n - 1, by omega⟩
  obtain ⟨l0, hl0, hz0, _, _, _⟩ := parts_layer hc (j := 0) (by omega)
  rw [hn, show last + 1 - 1 - 0 = last from by omega] at hl0
  obtain ⟨lk0, hlk0⟩ : ∃ x, (partsQ c).lg 0 = x := ⟨_, rfl⟩
  have lk4 : lk0 ≤ 4 := by rw [← hlk0]; exact parts_lg hc 0
  have hlog0 : l0.log = (lk0 : Int) := by rw [← hlk0, hz0]; have := (hc.layer last l0 hl0).1; omega
  have hat0 : lk0 ≤ nd := by rw [hnd, ← hlk0]; exact Nat.le_trans (at_mono (partsQ c) (Nat.zero_le c.layers.length)) (Nat.le_refl _)
  have HR := hid hr
  have HG := hid hg
  have HN := hid hn
  have HC := hid hc
  have HI := hid hi
  have HVI := hid vi
  have HNI := hid hN
  have HD := hid hd
  have HVD := hid vd
  have HND := hid hnd
  have HLK := hid hlk0
  obtain ⟨i0, hi0, hz0', hz1', hz2'⟩ := info_parts Tryd.infoO
  have HU0 := hid (And.intro hi0 (And.intro hz0' (And.intro hz1' hz2')))
  obtain ⟨i1, hi1, hy0', hy1', hy2'⟩ := info_parts Tryd.infoL
  have HU1 := hid (And.intro hi1 (And.intro hy0' (And.intro hy1' hy2')))
  obtain ⟨i2, hi2, hx0', hx1', hx2'⟩ := info_parts Tryd.infoPt
  have HU2 := hid (And.intro hi2 (And.intro hx0' (And.intro hx1' hx2')))
  clear hi0 hz0' hz1' hz2' hi1 hy0' hy1' hy2' hi2 hx0' hx1' hx2'
  have HS0 := hid (PfS.start w g (.slice (some ⟨b, off, none⟩) (last + 1) cap) 24 33 33 (rightP c f D) (⟨fun _ => none, fun _ => none, fun _ => 0, fun _ => 0, fun _ _ => none, fun _ _ => 0⟩ : PM))
  obtain ⟨b', off', eb, hcl⟩ := hr hc.some
  cases eb
  have y0 := (hcl last l0 hl0).1
  rw [Nat.mul_comm 2 last, hlog0] at y0
  have y0' := nkeep HS0.out.bel y0
  obtain ⟨q0, q1, _⟩ := HS0.out.box
  clear hr hg hn hc hN hi vi hd vd hnd hlk0 hcl hl0 hz0 hlog0 y0
  have s0 : (0 : Int) ≤ (last : Int) := by omega
  have s1 : (last : Int) < (last : Int) + 1 := by omega
  have s2 : (lk0 : Int) ≤ (cd : Int) := by omega
  go_enter Tryd.func12, Tryd.ntmps12
  go_wp2_with fail
  clear y0' q0 q1
  obtain ⟨X, hX⟩ : ∃ X, w.heap.size = X := ⟨_, rfl⟩
  obtain ⟨W1, hW1⟩ : ∃ W1, ((w.alloc (.cells #[.int .i64 g, .slice (some ⟨b, off, none⟩) (last + 1) cap] 24)).alloc (.cells #[.slice none 0 0] 33)).alloc (.cells #[.slice none 0 0] 33) = W1 := ⟨_, rfl⟩
  rw [hW1] at HS0 ⊢
  rw [hX] at HS0 ⊢
  clear hW1 hX
  have HZ0 : Hid (PRow W1 (some ⟨bd, od, none⟩) lk0 (zQ (partsQ c) D 0)) := hid (PRow.of fun j hj => (HD.out.kept HS0.out.bel (HD.out.lt (by omega))) j (by omega))
  go_loopg [9, 10, 11] (last + 1) (fun q z a j wr => ∃ (t at' : Nat) (az : Option Addr) (lk cz : Nat) (vP : Value) (m : PM), t ≤ last + 1 ∧ q = last + 1 - t ∧ z = .slice az lk cz ∧ a = .int .i64 (at' : Int) ∧ j = .int .i64 ((last : Int) - (t : Int)) ∧ lk ≤ 4 ∧ at' ≤ nd ∧ Hid (at' = (partsQ c).at t) ∧ Hid ((partsQ c).lg t = lk) ∧ Hid (PRow wr az lk (zQ (partsQ c) D t)) ∧ Hid (PfS w wr X g (.slice (some ⟨b, off, none⟩) (last + 1) cap) vP t (rightP c f D) m))
  case atStart => exact ⟨0, lk0, _, lk0, cd, _, _, by omega, rfl, rfl, rfl, by simp, lk4, hat0, hid HLK.out.symm, HLK, HZ0, HS0⟩
  case round =>
    clear HZ0 HS0
    obtain ⟨t, a, az, lk, cz, vP, m, ht, rfl, rfl, rfl, rfl, hlk, ha, HA, HLG, HZ, HS⟩ := hrel
    obtain ⟨z0, z1, zl⟩ := HS.out.box
    by_cases htl : t < last + 1
    · obtain ⟨i, hi⟩ : ∃ i : Nat, i + t = last := ⟨last - t, by omega⟩
      obtain ⟨bk, hbk, bk4⟩ := belowQ_rng HC.out i
      have HBK := hid (lg_next HN.out (show i + t + 1 = last + 1 by omega) hbk)
      have HBE : Hid (∀ W, Below w.heap.size w W → Calls Tryd.prog 18 #[.agg #[.int .i64 g, .slice (some ⟨b, off, none⟩) (last + 1) cap], .int .i64 (i : Int)] W fun e w' => e = .returned (.int .i64 (bk : Int)) ∧ Below W.heap.size W w') := hid (fun W h => by rw [← hbk]; exact rbelow_any c g b off (last + 1) cap i A C W HG.out HN.out n4 (by omega) (HR.out.kept h))
      have hfit : a + 2 * bk + 1 ≤ nd := by have h := at_fits (c := c) (j := t) (by rw [HN.out]; exact htl); rw [← HA.out, HBK.out, ← HND.out] at h; exact h
      have hni : (last : Int) - (t : Int) = (i : Int) := by omega
      have i00 : (0 : Int) ≤ (i : Int) := by omega
      have HII := hid hi
      have HIL : Hid (i < last + 1) := hid (by omega)
      clear hbk hi
      rw [hni]
      go_wp2_with fail
      refine (HBE.out _ HS.out.bel).mono ?_
      rintro e w2 ⟨rfl, hb⟩
      replace HS := hid (HS.out.next hb)
      replace HZ := hid (HZ.out.kept hb)
      clear hb z0 z1 zl HBE
      obtain ⟨z0, z1, zl⟩ := HS.out.box
      have HVL := hid (fun W (h : Below w.heap.size w W) => rvals_any c g b off (last + 1) cap A C bi oi N ci f HN.out HC.out HNI.out HVI.out i (by have := HII.out; omega) ((i : Int) - 1) W rfl (HR.out.kept h) (HI.out.kept h (HI.out.lt (by have := (lenQ_rng HC.out 0 (by omega)).1; rw [HNI.out] at this; omega))))
      go_wp2_with fail
      refine (HVL.out _ HS.out.bel).mono ?_
      rintro e w3 ⟨vB, rfl, hob, hb⟩
      replace HS := hid (HS.out.next hb)
      replace HZ := hid (HZ.out.kept hb)
      have HOB := hid hob
      clear hb z0 z1 zl HVL hob
      have hlen : lenQ c i = 2 ^ bk := by
        have h1 := HBK.out
        rw [lenQ]
        have h2 : (belowQ c i).toNat = bk := by
          have h3 : (partsQ c).lg (t + 1) = (belowQ c i).toNat := by show (belowQ c (c.layers.length - (t + 1))).toNat = _; rw [HN.out, show last + 1 - (t + 1) = i from by have := HII.out; omega]
          rw [← h3]; exact h1
        rw [h2]
      obtain ⟨M, hM⟩ : ∃ M, 2 ^ bk = M := ⟨_, rfl⟩
      have hM1 : 1 ≤ M := by rw [← hM]; exact Nat.one_le_two_pow
      have hM16 : M ≤ 16 := by rw [← hM]; exact Nat.pow_le_pow_right (j := 4) (by omega) bk4
      rw [hlen, hM] at HOB
      have HMM := hid hM
      obtain ⟨aB, cB, eB, hpB, _⟩ := HOB.out.is
      obtain ⟨bB, oB, eB2, hrB⟩ := hpB (by omega)
      subst eB2
      subst eB
      have HRB := hid hrB
      clear hlen hM hpB hrB
      have a0 : (0 : Int) ≤ (a : Int) := by omega
      have a1 : (a : Int) ≤ (a : Int) + 2 * (bk : Int) := by omega
      have a2 : (a : Int) + 2 * (bk : Int) ≤ (cd : Int) := by omega
      have a3 : (a : Int) + 2 * (bk : Int) < (nd : Int) := by omega
      have hca : ¬ cd = a := by omega
      have ctau := (HD.out.kept HS.out.bel (HD.out.lt (by omega))) (a + 2 * bk) (by omega)
      go_wp2_with fail
      rw [show a + 2 * bk - a = 2 * bk from by omega]
      obtain ⟨tau, htau⟩ : ∃ x, D (a + 2 * bk) = x := ⟨_, rfl⟩
      have HTAU := hid htau
      have htr := HVD.out (a + 2 * bk)
      rw [htau] at htr ⊢
      clear ctau htau
      obtain ⟨l, hl, hlg, hlen, _, hgo⟩ := parts_layer HC.out (j := t) (by rw [HN.out]; exact htl)
      rw [HN.out, show last + 1 - 1 - t = i from by have := HII.out; omega] at hl
      rw [HLG.out] at hlen
      rw [HBK.out] at hgo
      have HL := hid hl
      have HGL := hid (And.intro hlen hgo)
      clear hl hlg hlen hgo
      have HQ0 := hid (RnQ.start w3 79 (fun _ => none) (fun _ => 0) (fun r => rdQ l.gates lk bk (valsQ c f i) (zQ (partsQ c) D t) (fun q => D (a + q)) r))
      obtain ⟨Y, hY⟩ : ∃ Y, w3.heap.size = Y := ⟨_, rfl⟩
      obtain ⟨W4, hW4⟩ : ∃ W4, w3.alloc (.cells #[.slice none 0 0, .slice none 0 0] 79) = W4 := ⟨_, rfl⟩
      rw [hW4, hY] at HQ0
      rw [hW4, hY]
      clear hW4
      have HYE := hid hY
      clear hY HOB
      go_loopg [17] (2 * bk) (fun q y wr => ∃ (j : Nat) (vR : Value) (AR : Nat → Option Addr) (CR : Nat → Nat), j ≤ 2 * bk ∧ q = 2 * bk - j ∧ y = .int .i64 (j : Int) ∧ Hid (RnQ w3 wr Y vR j AR CR (fun r => rdQ l.gates lk bk (valsQ c f i) (zQ (partsQ c) D t) (fun q => D (a + q)) r)))
      case atStart => exact ⟨0, _, _, _, by omega, rfl, rfl, HQ0⟩
      case round =>
        clear HQ0
        obtain ⟨j, vR, AR, CR, hj2, rfl, rfl, HQ⟩ := hrel
        by_cases hjl : j < 2 * bk
        · have jl : (j : Int) < 2 * (bk : Int) := by omega
          obtain ⟨wj, hwj⟩ : ∃ wj, wj = wr := ⟨_, rfl⟩
          subst hwj
          go_wp2_with fail
          go_loopg [18, 19] 3 (fun q x y wr => ∃ (v : Nat) (vr : Value), v ≤ 3 ∧ q = 3 - v ∧ x = vr ∧ y = .int .u64 (v : Int) ∧ Hid (Own wr wj.heap.size vr v (rdQ l.gates lk bk (valsQ c f i) (zQ (partsQ c) D t) (fun q => D (a + q)) j)) ∧ Hid (Below wj.heap.size wj wr))
          case atStart => exact ⟨0, _, by omega, rfl, rfl, rfl, hid (Own.nil _ _ _), hid (Below.refl _ _)⟩
          case round =>
            obtain ⟨v, vr, hv3, rfl, rfl, rfl, HO, HBV⟩ := hrel
            by_cases hvl : v < 3
            · have vl : (v : Int) < 3 := by omega
              obtain ⟨m', hm'⟩ : ∃ m', 2 * bk - j - 1 = m' := ⟨_, rfl⟩
              have hmi : 2 * (bk : Int) - (j : Int) - 1 = (m' : Int) := by omega
              have m7 : m' ≤ 8 := by omega
              obtain ⟨B2, hB2⟩ : ∃ B2, 2 ^ m' = B2 := ⟨_, rfl⟩
              have HB2 : Hid (wrap64 ((2 : Int) ^ m') = (B2 : Int)) := hid (by rw [← hB2]; exact shl_one m7)
              have hB256 : B2 ≤ 256 := by rw [← hB2]; exact Nat.pow_le_pow_right (j := 8) (by omega) m7
              have HB2E := hid hB2
              clear hB2
              obtain ⟨wv, hwv⟩ : ∃ wv, wv = wr := ⟨_, rfl⟩
              subst hwv
              go_wp2_with fail
              go_loopg [20, 21] B2 (fun q x y wr => ∃ (bb : Nat) (zz : Int), bb ≤ B2 ∧ q = B2 - bb ∧ x = .int .u64 zz ∧ y = .int .i64 (bb : Int) ∧ 0 ≤ zz ∧ zz ≤ 2305843009213693950 ∧ Hid (zz = ofK (sK (cornT l.gates lk bk (valsQ c f i) (zQ (partsQ c) D t) (fun q => D (a + q)) j v m') bb)) ∧ Hid (Below wv.heap.size wv wr))
              case atStart => exact ⟨0, 0, by omega, rfl, rfl, rfl, by omega, by omega, hid rfl, hid (Below.refl _ _)⟩
              case round =>
                obtain ⟨bb, zz, hbb, rfl, rfl, rfl, zz0, zz1, HZZ, HBB⟩ := hrel
                by_cases hbl : bb < B2
                · have bl : (bb : Int) < wrap64 ((2 : Int) ^ m') := by rw [HB2.out]; omega
                  have c00 : (0 : Int) ≤ (j : Int) := by omega
                  have c01 : (j : Int) ≤ ((cd - a : Nat) : Int) := by omega
                  have HW : Hid (Below w.heap.size w wr) := hid (by
                    have h1 := HS.out.bel.trans (HQ.out.bel.mono HS.out.bel.size)
                    have h2 := h1.trans (HBV.out.mono h1.size)
                    exact h2.trans (HBB.out.mono h2.size))
                  have HPD : Hid (PRow wr (some ⟨bd, od + a, none⟩) j (fun q => D (a + q))) := hid (PRow.of fun q hq => by
                    have := (HD.out.kept HW.out (HD.out.lt (by omega))) (a + q) (by omega)
                    rw [← Nat.add_assoc] at this
                    exact this)
                  obtain ⟨k2, hk2⟩ : ∃ k2, 2 * bk = k2 := ⟨_, rfl⟩
                  obtain ⟨k3, hk3⟩ : ∃ k3, k2 - j = k3 := ⟨_, rfl⟩
                  have w1 : IntKind.i64.wrap (2 * (bk : Int)) = (k2 : Int) := by rw [show 2 * (bk : Int) = (k2 : Int) from by omega]; exact IntWalk.i64_in _ (by omega)
                  have w2 : IntKind.i64.wrap ((k2 : Int) - (j : Int)) = (k3 : Int) := by rw [show (k2 : Int) - (j : Int) = (k3 : Int) from by omega]; exact IntWalk.i64_in _ (by omega)
                  have w3' : IntKind.i64.wrap ((k3 : Int) - 1) = (m' : Int) := by rw [show (k3 : Int) - 1 = (m' : Int) from by omega]; exact IntWalk.i64_in _ (by omega)
                  have HBI := hid (fun W => rbits_any bb m' W (by omega) (by omega))
                  have hjm : j + 1 + m' = k2 := by omega
                  have k28 : k2 ≤ 8 := by omega
                  have HK2 := hid hk2
                  have HJM := hid hjm
                  clear hk2 hk3 hjm
                  go_wp2_with fail
                  go_cut [22] (fun a22 wx => ∃ bj cj, a22 = .slice (some ⟨bj, 0, none⟩) k2 cj ∧ k2 ≤ cj ∧ Hid (Below wr.heap.size wr wx) ∧ Hid (Row wx bj 0 k2 (xyF (fun q => D (a + q)) j v m' bb)))
                  case first =>
                    go_region_held3 (fun _ => True) (trivial) (first
                      | (go_at_call 38; refine (HBI.out _).mono ?_; rintro e w5 ⟨vb, rfl, hob, hb5, hzb⟩; obtain ⟨ab, cb, rfl, hpb, _⟩ := hob.is; have HPB := hid hpb; have HB5 := hid hb5; clear hob hb5 hzb hpb)
                      | (go_at_call 37; refine (corn_joinA HPD.out HB5.out HPB.out HJM.out k28).mono ?_; rintro e w6 ⟨bj, cj, rfl, hcj, hrj, hbj⟩; have HRJ := hid hrj; have HBJ := hid hbj; clear hrj hbj)
                      | (go_at_call 37; refine (corn_joinB HPD.out HB5.out HPB.out HJM.out k28).mono ?_; rintro e w6 ⟨bj, cj, rfl, hcj, hrj, hbj⟩; have HRJ := hid hrj; have HBJ := hid hbj; clear hrj hbj))
                    all_goals (go_wp2_with fail)
                    all_goals go_meet
                    all_goals exact ⟨_, _, rfl, hcj, HBJ, HRJ⟩
                  case rest =>
                    obtain ⟨bj, cj, rfl, hcj, HBJ, HRJ⟩ := hcut
                    have d0 : (0 : Int) ≤ (bk : Int) := by omega
                    have d1 : (bk : Int) ≤ (cj : Int) := by have := HK2.out; omega
                    have d2 : (bk : Int) ≤ (k2 : Int) := by have := HK2.out; omega
                    have d3 : ¬ cj = bk := by have := HK2.out; omega
                    clear HBI w1 w2 w3' bl c00 c01
                    go_wp2_with fail
                    go_quiet (fail)
                    rw [show k2 - bk = bk from by have := HK2.out; omega]
                    have HB7 : Hid (Below wr.heap.size wr (wc.drewN nq)) := hid (HBJ.out.trans ⟨rfl, rfl, rfl, Nat.le_refl _, fun _ _ => rfl⟩)
                    have HRJ7 : Hid (Row (wc.drewN nq) bj 0 k2 (xyF (fun q => D (a + q)) j v m' bb)) := hid HRJ.out
                    generalize wc.drewN nq = W7 at HB7 HRJ7 ⊢
                    clear d0 d1 d2 d3 HBJ HRJ
                    have HW7 : Hid (Below w.heap.size w W7) := hid (HW.out.trans (HB7.out.mono HW.out.size))
                    have HB37 : Hid (Below w3.heap.size w3 W7) := hid (by
                      have h2 := HQ.out.bel.trans (HBV.out.mono HQ.out.bel.size)
                      have h3 := h2.trans (HBB.out.mono h2.size)
                      exact h3.trans (HB7.out.mono h3.size))
                    have HS7 := hid (HS.out.next HB37.out)
                    have nxy := Nums_xyF (fun q => HVD.out (a + q)) j v m' bb (by omega)
                    have HXY := hid nxy
                    obtain ⟨evF, hevF⟩ : ∃ evF : Nat → Int, evF = fun o => ofK (evS (fun q => kk (valsQ c f i q)) (fun q => kk (xyF (fun q => D (a + q)) j v m' bb (o + q))) bk) := ⟨_, rfl⟩
                    have HEV := hid (fun (W : World) (oj cc : Nat) (hb : Below W7.heap.size W7 W) (ho : oj + bk ≤ k2) => (by
                      have h := reval_any bB oB bk M cB cc (some ⟨bj, oj, none⟩) (valsQ c f i) (fun q => xyF (fun q => D (a + q)) j v m' bb (oj + q)) W (by omega) HMM.out.symm (by omega) ((HRB.out.kept HB37.out (HRB.out.lt (by omega))).kept hb ((HRB.out.kept HB37.out (HRB.out.lt (by omega))).lt (by omega))) (Nums_vals c f i) (PRow.of fun q hq => by
                        have := (HRJ7.out.kept hb (HRJ7.out.lt (by omega))) (oj + q) (by omega)
                        rw [Nat.zero_add] at this
                        exact this) (fun q => HXY.out (oj + q))
                      rw [hevF]
                      exact h : Calls Tryd.prog 41 #[.slice (some ⟨bB, oB, none⟩) M cB, .slice (some ⟨bj, oj, none⟩) bk cc] W fun e w' => e = .returned (.int .u64 (evF oj)) ∧ Below W.heap.size W w'))
                    have hev0 : 0 ≤ evF 0 ∧ evF 0 ≤ 2305843009213693950 := by rw [hevF]; exact ofK_rng _
                    have hev1 : 0 ≤ evF bk ∧ evF bk ≤ 2305843009213693950 := by rw [hevF]; exact ofK_rng _
                    have HST := hid (fun (W : World) (hb : Below W7.heap.size W7 W) => (by
                      have hbw := HW7.out.trans (hb.mono HW7.out.size)
                      obtain ⟨b', off', eb, hcl⟩ := HR.out.kept hbw HC.out.some
                      cases eb
                      obtain ⟨_, c1, c2, _⟩ := hcl i l HL.out
                      have hz7 := HZ.out.kept HB37.out
                      have hk2 := HK2.out
                      have hxr := HRJ7.out.kept hb (HRJ7.out.lt (by omega))
                      exact rstep_ask (⟨HIL.out, n4, rfl, Nat.le_trans (Nat.pow_le_pow_right (by omega) hlk) (by decide), Nat.le_trans (Nat.pow_le_pow_right (by omega) bk4) (by decide), hlk, bk4, rfl, HGL.out.1, HGL.out.2, by rw [← HGL.out.1]; exact c1, c2, hz7.kept hb, PRow.of (fun q hq => hxr q (by omega)), PRow.of (fun q hq => by have := hxr (bk + q) (by omega); rw [Nat.zero_add] at this; exact this), Nums_zQ HVD.out _ _, HXY.out, fun q => HXY.out (bk + q)⟩ : Ask W l b off (last + 1) i (A i) (C i) az (some ⟨bj, 0, none⟩) (some ⟨bj, bk, none⟩) lk bk bk (2 ^ lk) (2 ^ bk) (zQ (partsQ c) D t) (xyF (fun q => D (a + q)) j v m' bb) (fun q => xyF (fun q => D (a + q)) j v m' bb (bk + q))) g cap cz cj (cj - bk) (evF 0) (evF bk) hev0.1 (by omega) hev1.1 (by omega) : Calls Tryd.prog 40 #[.agg #[.int .i64 g, .slice (some ⟨b, off, none⟩) (last + 1) cap], .int .i64 (i : Int), .slice az lk cz, .slice (some ⟨bj, 0, none⟩) bk cj, .slice (some ⟨bj, bk, none⟩) bk (cj - bk), .int .u64 (evF 0), .int .u64 (evF bk)] W fun e w' => e = .returned (.int .u64 (wstQ l.gates lk bk (zQ (partsQ c) D t) (xyF (fun q => D (a + q)) j v m' bb) (fun q => xyF (fun q => D (a + q)) j v m' bb (bk + q)) (evF 0) (evF bk))) ∧ Below W.heap.size W w'))
                    have HCS : Hid (wstQ l.gates lk bk (zQ (partsQ c) D t) (xyF (fun q => D (a + q)) j v m' bb) (fun q => xyF (fun q => D (a + q)) j v m' bb (bk + q)) (evF 0) (evF bk) = ofK (cornT l.gates lk bk (valsQ c f i) (zQ (partsQ c) D t) (fun q => D (a + q)) j v m' bb)) := hid (by
                      rw [hevF, ← corn_step]
                      congr 1
                      simp)
                    have hsr := ofK_rng (cornT l.gates lk bk (valsQ c f i) (zQ (partsQ c) D t) (fun q => D (a + q)) j v m' bb)
                    rw [HCS.out] at HST
                    obtain ⟨sv, hsv⟩ : ∃ x, ofK (cornT l.gates lk bk (valsQ c f i) (zQ (partsQ c) D t) (fun q => D (a + q)) j v m' bb) = x := ⟨_, rfl⟩
                    rw [hsv] at HST hsr
                    have HNXT := hid (corn_next (cornT l.gates lk bk (valsQ c f i) (zQ (partsQ c) D t) (fun q => D (a + q)) j v m') bb sv hsv.symm zz HZZ.out)
                    have HAD := hid (fun W => radd_any zz sv W zz0 (by omega) hsr.1 (by omega))
                    clear hsv hevF
                    obtain ⟨q5, q6, _⟩ := HS7.out.box
                    obtain ⟨SS, hSS⟩ : ∃ SS : World → Prop, SS = fun _ => True := ⟨_, rfl⟩
                    have HSS : Hid (∀ W, SS W) := hid (fun W => by rw [hSS]; trivial)
                    clear hSS
                    have k5 : ∀ t : QT W7 SS, t.w.cell? ⟨X, 0, none⟩ = some (.int .i64 g) := fun t => nkeep t.b q5
                    have k6 : ∀ t : QT W7 SS, t.w.cell? ⟨X, 1, none⟩ = some (.slice (some ⟨b, off, none⟩) (last + 1) cap) := fun t => nkeep t.b q6
                    have HBL : Hid (∀ t : QT W7 SS, Below W7.heap.size W7 t.w) := hid (fun t => t.b)
                    have HO0 : Hid (0 + bk ≤ k2) := hid (by have := HK2.out; omega)
                    have HO1 : Hid (bk + bk ≤ k2) := hid (by have := HK2.out; omega)
                    clear q5 q6
                    go_wp2_with fail
                    refine wp_region_grown SS (by kernel_rfl) (by kernel_rfl) (HSS.out _) ?_
                    haveI : Nonempty (QT W7 SS) := QT.ne (HSS.out _)
                    repeat (first | go_big_quiet_skip | (go_big_quiet_want; go_big_quiet_op; first | go_big_quiet_on | go_big_quiet_call (first | (go_at_call 41; exact Calls.grown_of (HEV.out _ _ _ (HBL.out _) (by first | exact HO0.out | exact HO1.out)) (fun _ _ => HSS.out _)) | (go_at_call 40; exact Calls.grown_of (HST.out _ (HBL.out _)) (fun _ _ => HSS.out _)) | (go_at_call 39; exact Calls.grown_same (HAD.out _)))))
                    refine wpQuiet_nil ?_
                    intro _ hw'
                    obtain ⟨tq, hw''⟩ := hw'
                    subst hw''
                    have HBQ : Hid (Below wv.heap.size wv tq.w) := hid (by
                      have h2 := HBB.out.trans (HB7.out.mono HBB.out.size)
                      exact h2.trans (tq.b.mono h2.size))
                    generalize tq.w = W8 at HBQ ⊢
                    go_wp2_with fail
                    go_roundg (B2 - (bb + 1))
                    case measure => go_light; omega
                    case rel => exact ⟨bb + 1, _, by omega, rfl, rfl, by go_num, (addQ_rng _ _).1, (addQ_rng _ _).2, HNXT, HBQ⟩
                · have e : B2 = bb := by omega
                  subst e
                  have bl : ¬ (B2 : Int) < wrap64 ((2 : Int) ^ m') := by rw [HB2.out]; omega
                  have HSUM : Hid (zz = rdQ l.gates lk bk (valsQ c f i) (zQ (partsQ c) D t) (fun q => D (a + q)) j v) := hid (by rw [HZZ.out, ← HB2E.out]; exact corn_sum _ _ _ _ _ _ _ _ _ (by omega))
                  have HO4 := hid (HO.out.kept HBB.out)
                  have HB4 : Hid (Below wj.heap.size wj wr) := hid (HBV.out.trans (HBB.out.mono HBV.out.size))
                  go_wp2_with (at_builtin; refine wpList_append_lies _ rfl _ _ 25 rfl wj.heap.size 45 i0 (.int .u64 0) 1 8 Tryd.underlying25 HU0.out.1 HU0.out.2.1 HU0.out.2.2.1 HU0.out.2.2.2 rfl (by decide) _ _ _ rfl (World.ownsRow.alloc HO4.out _) ⟨wr.heap.size, 0, none⟩ 1 1 [.int .u64 zz] rfl rfl (news_one wr zz _) (one_cell zz) (by omega) (by unfold maxLen; omega) (by omega) (by have := HB4.out.size; simp; omega) (wr.heap.size + 1) (by simp) ?_)
                  intro g6 c6 w6 hown6 hgrow6 hat6 hlt6
                  have HN6 := hid (own_snoc HB4.out HO4.out hown6 hgrow6 (fun _ _ => rfl) HSUM.out)
                  clear hown6 hgrow6 hat6 hlt6
                  go_wp2_with fail
                  go_roundg (3 - (v + 1))
                  case measure => go_light; omega
                  case rel => exact ⟨v + 1, _, by omega, rfl, rfl, by go_num, hid HN6.out.1, hid HN6.out.2⟩
            · have e : v = 3 := by omega
              subst e
              have HQ5 := hid (HQ.out.next HBV.out)
              obtain ⟨bu, cu, eu, hcu, hru, hlo, hlu⟩ := own_some HO.out (by omega)
              subst eu
              have HRU := hid hru
              have HLU : Hid (Y + 1 ≤ bu ∧ bu < wr.heap.size ∧ vR.ownBlock ≠ some bu) := hid ⟨Nat.le_trans HQ.out.lt hlo, hlu, HQ.out.rs.ov.far hlo⟩
              clear hru hlo hlu HO
              have y0 := HQ5.out.c0
              have fy := HQ5.out.f0
              have y0' := fun o => nkeep (nbel wr o) y0
              go_wp2_with (at_builtin; refine wpList_append_lies _ rfl _ _ 70 rfl (Y + 1) 25 i1 (.slice none 0 0) 1 24 Tryd.underlying70 HU1.out.1 HU1.out.2.1 HU1.out.2.2.1 HU1.out.2.2.2 rfl (by decide) _ _ _ rfl (World.ownsRow.alloc HQ5.out.rs.ov.own _) ⟨wr.heap.size, 0, none⟩ 1 1 [.slice (some ⟨bu, 0, none⟩) 3 cu] rfl rfl ?qc2 ?qc3 ?qc4 ?qc5 ?qc6 ?qc7 (wr.heap.size + 1) ?qc8 ?_)
              case qc2 =>
                intro q u hq
                match q, hq with
                | 0, hq => simp at hq; subst hq; simp [Addr.add]
              case qc3 => intro u hu; simp at hu; subst hu; rfl
              case qc4 => omega
              case qc5 => unfold maxLen; omega
              case qc6 => omega
              case qc7 => have := HQ5.out.lt; simp; omega
              case qc8 => simp
              intro g6 c6 w6 hown6 hgrow6 hat6 hlt6
              have HP6 := hid (HQ5.out.put hown6 hgrow6 hat6 HLU.out HRU.out)
              obtain ⟨⟨p0, p1⟩, _⟩ := HP6.out
              clear hown6 hgrow6 hat6 hlt6 y0 fy y0'
              go_wp2_with fail
              go_roundg (2 * bk - (j + 1))
              case measure => go_light; omega
              case rel => exact ⟨j + 1, _, _, _, by omega, rfl, by go_num, hid HP6.out.2⟩
        · have e : 2 * bk = j := by omega
          subst e
          have d0 : (0 : Int) ≤ (bk : Int) := by omega
          have d1 : (bk : Int) ≤ ((cd - a : Nat) : Int) := by omega
          have d2 : (bk : Int) ≤ 2 * (bk : Int) := by omega
          have d3 : ¬ cd - a = bk := by omega
          go_wp2_with fail
          go_quiet (fail)
          rw [show 2 * bk - bk = bk from by omega]
          have HQ5 := hid (HQ.out.next (⟨rfl, rfl, rfl, Nat.le_refl _, fun _ _ => rfl⟩ : Below wr.heap.size wr (wr.drewN nq)))
          generalize wr.drewN nq = L0 at HQ5 ⊢
          clear HQ
          have HL0 : Hid (LnQ L0 L0 Y vR (.slice none 0 0) 0 (lnGk (valsQ c f i) (fun q => D (a + q)) bk)) := hid ⟨ButS.refl _ _, HQ5.out.lt, HQ5.out.c0, HQ5.out.c1, HQ5.out.f1, Own.nil _ _ _⟩
          have HDX : Hid (∀ W, Below w.heap.size w W → PRow W (some ⟨bd, od + a, none⟩) bk (fun q => D (a + q)) ∧ PRow W (some ⟨bd, od + a + bk, none⟩) bk (fun q => D (a + (bk + q)))) := hid (fun W hW => by
            have hr := HD.out.kept hW (HD.out.lt (by omega))
            exact ⟨PRow.of fun q hq => by rw [Nat.add_assoc]; exact hr (a + q) (by omega), PRow.of fun q hq => by rw [show od + a + bk + q = od + (a + (bk + q)) from by omega]; exact hr (a + (bk + q)) (by omega)⟩)
          go_wp2_with fail
          go_loopg [27] (bk + 1) (fun q y wr => ∃ (s : Nat) (vL : Value), s ≤ bk + 1 ∧ q = bk + 1 - s ∧ y = .int .i64 (s : Int) ∧ Hid (LnQ L0 wr Y vR vL s (lnGk (valsQ c f i) (fun q => D (a + q)) bk)))
          case atStart => exact ⟨0, _, by omega, rfl, rfl, HL0⟩
          case round =>
            clear HL0
            obtain ⟨s, vL, hsb, rfl, rfl, HLN⟩ := hrel
            have HB3 : Hid (Below w3.heap.size w3 wr) := hid (HLN.out.bel HQ5.out.bel HYE.out)
            have HSW := hid (HS.out.next HB3.out)
            by_cases hsl : s < bk + 1
            · have sl : (s : Int) ≤ (bk : Int) := by omega
              have wt : IntKind.u64.wrap (s : Int) = (s : Int) := by rw [IntKind.wrap_u64]; omega
              have HLI := hid (fun (W : World) (hb : Below wr.heap.size wr W) => rgline_any (some ⟨bd, od + a, none⟩) (some ⟨bd, od + a + bk, none⟩) bk (cd - a) (cd - a - bk) (fun q => D (a + q)) (fun q => D (a + (bk + q))) (s : Int) W (by omega) (HDX.out W (HSW.out.bel.trans (hb.mono HSW.out.bel.size))).1 (HDX.out W (HSW.out.bel.trans (hb.mono HSW.out.bel.size))).2 (fun q => HVD.out _) (fun q => HVD.out _) (by omega) (by omega))
              have HEV := hid (fun (W : World) (al : Option Addr) (cc : Nat) (hb : Below wr.heap.size wr W) (hp : PRow W al bk (linQ (fun q => D (a + q)) (fun q => D (a + (bk + q))) (s : Int))) => (by exact reval_any bB oB bk M cB cc al (valsQ c f i) (linQ (fun q => D (a + q)) (fun q => D (a + (bk + q))) (s : Int)) W (by omega) HMM.out.symm (by omega) ((HRB.out.kept HB3.out (HRB.out.lt (by omega))).kept hb ((HRB.out.kept HB3.out (HRB.out.lt (by omega))).lt (by omega))) (Nums_vals c f i) hp (fun q => by have := linQ_rng (fun q => D (a + q)) (fun q => D (a + (bk + q))) (s : Int) q; omega) : Calls Tryd.prog 41 #[.slice (some ⟨bB, oB, none⟩) M cB, .slice al bk cc] W fun e w' => e = .returned (.int .u64 (lnGk (valsQ c f i) (fun q => D (a + q)) bk s)) ∧ Below W.heap.size W w'))
              obtain ⟨yv, hyv⟩ : ∃ x, lnGk (valsQ c f i) (fun q => D (a + q)) bk s = x := ⟨_, rfl⟩
              rw [hyv] at HEV
              have HYV := hid hyv
              have y1 := HLN.out.c1
              have fy := HLN.out.f1
              have hls : L0.heap.size ≤ wr.heap.size := HLN.out.but.size
              clear hyv
              go_wp2_with fail
              go_region_law (first
                | (refine step_append_lies _ (by rfl) (.tmp 150) (.tmp 158) 25 (by rfl) L0.heap.size 45 i0 (.int .u64 0) 1 8 Tryd.underlying25 HU0.out.1 HU0.out.2.1 HU0.out.2.2.1 HU0.out.2.2.2 rfl (by decide) vL s (cellsOf s (lnGk (valsQ c f i) (fun q => D (a + q)) bk)) (by rfl) (World.ownsRow.alloc HLN7.out.own _) ⟨w7.heap.size, 0, none⟩ 1 1 [.int .u64 yv] (by rfl) (by rfl) (news_one w7 yv _) (one_cell yv) (by omega) (by unfold maxLen; omega) (by omega) (by have := HLS7.out; simp; omega) (w7.heap.size + 1) (by simp) ?_; intro g6 c6 w8 hown6 hgrow6 hat6 hlt6; have HP8 := hid (HLN7.out.put hown6 hgrow6 HYV.out.symm); have q1 := HP8.out.1.1; have q2 := HP8.out.1.2)
                | (go_simp; go_at_call 42; refine (HLI.out _ (Below.refl _ wr).drew).mono ?_; rintro e w6 ⟨vl, rfl, hol, hb6⟩; obtain ⟨al, cal, rfl, hpl, _⟩ := hol.is; have HB6 : Hid (Below wr.heap.size wr w6) := hid ((Below.refl _ wr).drew.trans hb6); have HPL := hid hpl; have y6 := nkeep HB6.out y1; clear hol hb6 hpl)
                | (go_simp; go_at_call 41; refine (HEV.out _ _ _ HB6.out HPL.out).mono ?_; rintro e w7 ⟨rfl, hb7⟩; have HB7 : Hid (Below wr.heap.size wr w7) := hid (HB6.out.trans (hb7.mono HB6.out.size)); have HLN7 := hid (HLN.out.next HB7.out); have HLS7 : Hid (L0.heap.size ≤ w7.heap.size) := hid (Nat.le_trans hls HB7.out.size); have y7 := HLN7.out.c1; have y8 := fun o => nkeep (nbel w7 o) y7; clear hb7))
              all_goals (go_wp2_with fail)
              all_goals (go_roundg (bk + 1 - (s + 1)))
              all_goals first | (go_light; omega) | (exact ⟨s + 1, _, by omega, rfl, by go_num, hid HP8.out.2⟩)
            · have e : s = bk + 1 := by omega
              subst e
              have HRS : Hid (RndS wr (Y + 1) vR (2 * bk) AR (fun _ => 3) CR ((rightP c f D).R t)) := hid ((HQ5.out.rs.keep HLN.out.kp).same (fun _ _ => rfl) (fun r q _ _ => by
                have h := rd_right (c := c) (n := last + 1) (i := i) (t := t) (lk := lk) (bk := bk) (l := l) HN.out (by have := HII.out; omega) HL.out HLG.out HBK.out f D r q
                rw [← HA.out] at h
                exact h))
              obtain ⟨aR, cR, eR, hcR, hLR⟩ := HRS.out.ov.is
              obtain ⟨bl, cl, eL, hcl, hrl, hlo, hll⟩ := own_some HLN.out.own (by omega)
              subst eR
              subst eL
              have en : (rightP c f D).rn t = 2 * bk := by show 2 * (partsQ c).lg (t + 1) = _; rw [HBK.out]
              have em : (rightP c f D).ln t = bk + 1 := by show (partsQ c).lg (t + 1) + 1 = _; rw [HBK.out]
              have HEN := hid (And.intro en em)
              obtain ⟨u1, u2, u3, u4, u5, u6⟩ := m.put_at t aR (some ⟨bl, 0, none⟩) cR cl AR CR
              have HPR : Hid (PartR wr (rightP c f D) (m.put t aR (some ⟨bl, 0, none⟩) cR cl AR CR) t) := hid (by
                unfold PartR
                rw [u1, u2, u5, u6, en, em]
                refine ⟨hLR, (PRow.of hrl).congr fun q _ => ?_⟩
                have h := ln_right (c := c) (n := last + 1) (i := i) (t := t) (bk := bk) HN.out (by have := HII.out; omega) HBK.out f D q
                rw [← HA.out] at h
                exact h)
              have hXY : X + 1 + 1 + 1 ≤ Y := by have h1 := HS.out.lo; have h2 := HYE.out; omega
              have hvp : ∀ k, vP.ownBlock = some k → k < Y := fun k hk => by have h1 := (World.ownsRow.lt HS.out.parts.own k hk).2; have h2 := HYE.out; omega
              have hfar : ∀ q, Y + 1 ≤ q → q < wr.heap.size → X + 1 + 1 + 1 ≤ q ∧ q < wr.heap.size ∧ vP.ownBlock ≠ some q := fun q h1 h2 => ⟨by omega, h2, fun e => by have := hvp q e; omega⟩
              have HPA : Hid (PartA (fun q => X + 1 + 1 + 1 ≤ q ∧ q < wr.heap.size ∧ vP.ownBlock ≠ some q) (rightP c f D) (m.put t aR (some ⟨bl, 0, none⟩) cR cl AR CR) t) := hid (by
                unfold PartA
                rw [u1, u2, u5, en]
                refine ⟨fun x hx => ?_, fun x hx => ?_, fun r hr x hx => hfar _ (HRS.out.lo r hr x hx) (HRS.out.ov.lt r hr x hx)⟩
                · have h1 := World.ownsRow.lt HRS.out.ov.own x.block (by rw [hx]; rfl)
                  exact hfar _ h1.1 h1.2
                · cases hx
                  exact hfar _ (Nat.le_trans HQ5.out.lt hlo) hll)
              have y0 := HLN.out.c0
              have y1 := HLN.out.c1
              have x7 := HSW.out.x7
              have f7 := HSW.out.f7
              clear hLR hrl hlo hll en em u1 u2 u3 u4 u5 u6 hXY hvp hfar HRS hcR hcl
              go_wp2_with (at_builtin; refine wpList_append_lies _ rfl _ _ 31 rfl (X + 1 + 1 + 1) 79 i2 (.agg #[.slice none 0 0, .slice none 0 0]) 2 48 Tryd.underlying31 HU2.out.1 HU2.out.2.1 HU2.out.2.2.1 HU2.out.2.2.2 rfl (by decide) _ _ _ rfl (World.ownsRow.alloc HSW.out.parts.own _) ⟨wr.heap.size, 0, none⟩ 1 1 [.slice aR (2 * bk) cR, .slice (some ⟨bl, 0, none⟩) (bk + 1) cl] rfl ?qc1 ?qc2 ?qc3 ?qc4 ?qc5 ?qc6 ?qc7 (wr.heap.size + 1) ?qc8 ?_)
              case qc1 => rfl
              case qc2 =>
                intro q u hq
                match q, hq with
                | 0, hq => simp at hq; subst hq; simp [Addr.add]
                | 1, hq => simp at hq; subst hq; simp [Addr.add]
              case qc3 =>
                intro u hu
                simp at hu
                rcases hu with hu | hu <;> subst hu <;> rfl
              case qc4 => omega
              case qc5 => unfold maxLen; omega
              case qc6 => omega
              case qc7 => have := HSW.out.lo; simp; omega
              case qc8 => simp
              intro g6 c6 w6 hown6 hgrow6 hat6 hlt6
              have HP6 := hid (HSW.out.put (A := AR) (C := CR) (by rw [HEN.out.1, HEN.out.2]; exact hown6) hgrow6 hat6 HPR.out HPA.out)
              obtain ⟨⟨p0, p1⟩, _⟩ := HP6.out
              clear hown6 hgrow6 hat6 hlt6 y0 y1 x7 f7 HPR HPA HSW
              go_wp2_with fail
              obtain ⟨W9, hW9⟩ : ∃ W9, w6.setCell ⟨X + 1 + 1, 0, none⟩ (.slice (some ⟨g6, 0, none⟩) (t + 1) c6) = W9 := ⟨_, rfl⟩
              have HS9 := hid HP6.out.2
              rw [hW9] at HS9 ⊢
              clear hW9 HP6 p0 p1
              refine (rgline_any (some ⟨bd, od + a, none⟩) (some ⟨bd, od + a + bk, none⟩) bk (cd - a) (cd - a - bk) (fun q => D (a + q)) (fun q => D (a + (bk + q))) tau W9 (by omega) (HDX.out W9 HS9.out.bel).1 (HDX.out W9 HS9.out.bel).2 (fun q => HVD.out _) (fun q => HVD.out _) htr.1 htr.2).mono ?_
              rintro e w10 ⟨vz, rfl, hoz, hb⟩
              obtain ⟨az', cz', rfl, hpz, _⟩ := hoz.is
              have HS10 := hid (HS9.out.next hb)
              have HZ10 : Hid (PRow w10 az' bk (zQ (partsQ c) D (t + 1))) := hid (by
                have hz : zQ (partsQ c) D (t + 1) = linQ (fun q => D (a + q)) (fun q => D (a + (bk + q))) tau := by
                  rw [zQ, Parts.tau, ← HA.out, HBK.out, HTAU.out]
                  simp only [Nat.add_assoc]
                rw [hz]; exact hpz)
              have HA10 : Hid (a + 2 * bk + 1 = (partsQ c).at (t + 1)) := hid (by show _ = (partsQ c).at t + 2 * (partsQ c).lg (t + 1) + 1; rw [← HA.out, HBK.out])
              clear hoz hb hpz HS9
              go_wp2_with fail
              go_roundg (last + 1 - (t + 1))
              case measure => go_light; omega
              case rel => exact ⟨t + 1, a + 2 * bk + 1, az', bk, cz', _, _, by omega, rfl, rfl, by simp; omega, by have := HII.out; simp; omega, bk4, by omega, HA10, HBK, HZ10, HS10⟩
    · have e : t = last + 1 := by omega
      subst e
      have hpn : (rightP c f D).n = last + 1 := HN.out
      have HAL : Hid (∃ ao cp, vP = .slice ao (last + 1) cp ∧ ∀ z, PfRow (wr.setCell ⟨X + 1, 0, none⟩ z) ao (rightP c f D) m) := hid (by
        have h1 : ∀ z, ∃ ao cp, vP = .slice ao (last + 1) cp ∧ PfRow (wr.setCell ⟨X + 1, 0, none⟩ z) ao (rightP c f D) m := fun z => by
          have h2 : PartsS (wr.setCell ⟨X + 1, 0, none⟩ z) (X + 1 + 1 + 1) vP (rightP c f D).n (rightP c f D) m := by rw [hpn]; exact HS.out.parts.keep (Kp.set _ _ _ (by omega))
          obtain ⟨ao, cp, e, h3⟩ := h2.all
          exact ⟨ao, cp, by rw [← hpn]; exact e, h3⟩
        obtain ⟨ao, cp, e, _⟩ := h1 (.slice none 0 0)
        refine ⟨ao, cp, e, fun z => ?_⟩
        obtain ⟨ao', cp', e', h3⟩ := h1 z
        rw [e] at e'
        cases e'
        exact h3)
      obtain ⟨ao, cp, eP, _⟩ := HAL.out
      have HPF : Hid (∀ z, PfRow (wr.setCell ⟨X + 1, 0, none⟩ z) ao (rightP c f D) m) := hid (fun z => by
        obtain ⟨ao', cp', e', h3⟩ := HAL.out
        rw [eP] at e'
        cases e'
        exact h3 z)
      have HFR : Hid ((∀ a, ao = some a → w.heap.size ≤ a.block) ∧ ∀ j, j < last + 1 → PartA (fun q => w.heap.size ≤ q) (rightP c f D) m j) := hid ⟨fun x hx => by
        have h1 := (World.ownsRow.lt HS.out.parts.own x.block (by rw [eP, hx]; rfl)).1
        have h2 := HS.out.hX
        omega, fun j hj => (HS.out.parts.far j hj).mono fun q hq => by have h2 := HS.out.hX; have h3 := hq.1; omega⟩
      have HB10 : Hid (∀ z, Below w.heap.size w (wr.setCell ⟨X + 1, 0, none⟩ z)) := hid (fun z => HS.out.bel.setCell (by have := HS.out.hX; show w.heap.size ≤ X + 1; omega) z)
      subst eP
      have x7 := HS.out.x7
      have x6 := HS.out.x6
      have f6 := HS.out.f6
      have HX6 := hid x6
      have hneg : ¬ (0 : Int) ≤ (last : Int) - ((last + 1 : Nat) : Int) := by omega
      clear HAL
      go_wp2_with fail
      refine bodyPost_ret (results_prf1 rfl rfl (World.cell?_setCell_same _ _ _ HX6.out)) rfl ?_
      exact ⟨_, _, m, rfl, HPF.out _, HFR.out, HB10.out _⟩

end Go.Proofs.YtmjpcmeinlkfbaaDoor

/-
  Plain, for tallyref's Fiat: draws that are right so far tell the next one right; the proof for right draws is the one that is proved without asking; no program in it.
-/
namespace Go.Proofs.YtmjpcmeinlkfbaaDoor
open Go.RowKit
set_option linter.unusedVariables false

theorem hear_more (a : Asked) (z : Nat) (p : PQ) (t d : Nat) : ∀ k, k < z + t → (hearP a z p (t + d)).D k = (hearP a z p t).D k := by
  induction d with
  | zero => exact fun k _ => rfl
  | succ d ih =>
    intro k hk
    rw [← Nat.add_assoc, hearP, Asked.hear]
    dsimp only
    rw [catF, if_pos (by omega), ih k hk]
theorem hear_pre (a : Asked) (c : CQ) (f D : Nat → Int) (T : Nat) (hT : T = allL (rightP c f D)) : ∀ t, t ≤ T → (∀ k, k + 1 < (partsQ c).lg 0 + t → D k = (tellP a ((partsQ c).lg 0) c f T).D k) → hearP a ((partsQ c).lg 0) (rightP c f D) t = tellP a ((partsQ c).lg 0) c f t := by
  intro t
  induction t with
  | zero => exact fun _ _ => rfl
  | succ t ih =>
    intro ht h
    have hl : lsF (rightP c f D) t = lsF (rightP c f (filF ((partsQ c).lg 0 + t) (tellP a ((partsQ c).lg 0) c f t).D)) t := ls_pre c f _ _ t (by omega) fun k hk => by
      have h1 := tell_more a ((partsQ c).lg 0) c f t (T - t) k hk
      rw [show t + (T - t) = T from by omega] at h1
      rw [h k (by omega), h1]
      unfold filF
      rw [if_pos hk]
    rw [hearP, tellP, ih (by omega) (fun k hk => h k (by omega)), hl, lsN_eq c f D (filF ((partsQ c).lg 0 + t) (tellP a ((partsQ c).lg 0) c f t).D)]
/-- The draws of the proof that is told right. -/
def endD (c : CQ) (N M : Nat) (f : Nat → Int) : Nat → Int := (tellP (fiatA c N M f) ((partsQ c).lg 0) c f (allL (rightP c f f))).D
theorem draw_right (c : CQ) (N M : Nat) (f D : Nat → Int) (i : Nat) (hi : i < needQ c) (h : ∀ k, k < i → D k = endD c N M f k) : fiatD c N M f (valsQ c f c.layers.length) (rightP c f D) i = endD c N M f i := by
  have hT : allL (rightP c f D) = allL (rightP c f f) := all_eq c f D f
  have hq := all_need c f D
  rw [hT] at hq
  unfold fiatD endD at *
  rw [hT]
  show (hearP (fiatA c N M f) ((partsQ c).lg 0) (rightP c f D) (allL (rightP c f f))).D i = _
  obtain ⟨T, hTT⟩ : ∃ T, allL (rightP c f f) = T := ⟨_, rfl⟩
  rw [hTT] at hT hq h ⊢
  by_cases hz : i < (partsQ c).lg 0
  · have h1 := hear_more (fiatA c N M f) ((partsQ c).lg 0) (rightP c f D) 0 T i (by omega)
    have h2 := tell_more (fiatA c N M f) ((partsQ c).lg 0) c f 0 T i (by omega)
    rw [Nat.zero_add] at h1 h2
    rw [h1, h2]; rfl
  · obtain ⟨t, ht⟩ : ∃ t, i = (partsQ c).lg 0 + t := ⟨i - (partsQ c).lg 0, by omega⟩
    have h1 := hear_more (fiatA c N M f) ((partsQ c).lg 0) (rightP c f D) (t + 1) (T - (t + 1)) i (by omega)
    have h2 := tell_more (fiatA c N M f) ((partsQ c).lg 0) c f (t + 1) (T - (t + 1)) i (by omega)
    rw [show t + 1 + (T - (t + 1)) = T from by omega] at h1 h2
    rw [h1, h2, hear_pre (fiatA c N M f) c f D T hT.symm (t + 1) (by omega) (fun k hk => h k (by omega))]
theorem fiat_same (c : CQ) (N M : Nat) (f D : Nat → Int) (h : ∀ k, k < needQ c → D k = endD c N M f k) : SameT (partsQ c) (rightP c f D).told (fiatP c N M f).told := by
  refine same_of_lists (rightP_shaped _ _ _) (rightP_shaped _ _ _) fun t ht => ?_
  have hq := all_need c f D
  have hT := all_eq c f D f
  rw [hT] at ht hq
  unfold fiatP
  rw [last_right (fiatA c N M f) c f f (allL (rightP c f f)) rfl t ht]
  exact ls_pre c f _ _ t (by rw [hT]; exact ht) fun k hk => h k (by omega)
theorem PfRow.sameT {w : World} {ao : Option Addr} {c : CQ} {f D D' : Nat → Int} {m : PM} (h : PfRow w ao (rightP c f D) m) (hs : SameT (partsQ c) (rightP c f D).told (rightP c f D').told) : PfRow w ao (rightP c f D') m := fun h0 => by
  obtain ⟨b, off, e, hr⟩ := h h0
  refine ⟨b, off, e, fun j hj => ?_⟩
  obtain ⟨h1, h2, h3, h4⟩ := hr j hj
  refine ⟨h1, h2, fun h5 => ?_, ?_⟩
  · obtain ⟨b2, o2, e2, hr2⟩ := h3 h5
    refine ⟨b2, o2, e2, fun i hi => ⟨(hr2 i hi).1, ?_⟩⟩
    have hR : (rightP c f D).R j i = (rightP c f D').R j i := hs.R j hj i (by have hi : i < 2 * (partsQ c).lg (j + 1) := hi; omega)
    rw [← hR]
    exact (hr2 i hi).2
  · have hL : (rightP c f D).L j = (rightP c f D').L j := hs.L j hj
    rw [← hL]
    exact h4

end Go.Proofs.YtmjpcmeinlkfbaaDoor

/-
  Contracts of tallyref's Words, of right circuits, and of Drawn, of right things.
-/
namespace Go.Proofs.YtmjpcmeinlkfbaaDoor
open Go.RowKit
set_option linter.unusedVariables false
attribute [local go_sem ↓] Go.wp_at_zero Go.wp_at_succ

def rwordsOut (c : CQ) (w : World) (e : Ending) (w' : World) : Prop := ∃ v, e = .returned v ∧ Own w' w.heap.size v (cwordsQ c).length (rowOf (cwordsQ c)) ∧ Below w.heap.size w w'
set_option maxHeartbeats 8000000 in
set_option maxRecDepth 100000 in
theorem rwords_ok (c : CQ) (g : Int) (b off n cap : Nat) (A : Nat → Option Addr) (C : Nat → Nat) (w : World) (hg : c.log = g) (hn : c.layers.length = n) (hr : CRow w (some ⟨b, off, none⟩) c.layers A C) (hc : c.right) :
    Calls Tryd.prog 17 #[.agg #[.int .i64 g, .slice (some ⟨b, off, none⟩) n cap]] w fun e w' => rwordsOut c w e w' := by
  obtain ⟨i0, hi, hz0, hz1, hz2⟩ := info_parts Tryd.infoO
  have HI := hid (And.intro hi (And.intro hz0 (And.intro hz1 hz2)))
  have HS0 := hid (StW.start w g (.slice (some ⟨b, off, none⟩) n cap) 24)
  have n4 : n ≤ 4 := by have := hc.few; omega
  have g4 : 0 ≤ g ∧ g ≤ 4 := by rw [← hg]; exact hc.log
  have wg : IntKind.u64.wrap g = g := by rw [IntKind.wrap_u64]; omega
  have wn : IntKind.u64.wrap (n : Int) = (n : Int) := by rw [IntKind.wrap_u64]; omega
  have HR := hid hr
  have HN := hid hn
  have HC := hid hc
  have HG := hid hg
  clear hi hz0 hz1 hz2 hr hn hc hg
  go_enter Tryd.func17, Tryd.ntmps17
  go_upto_region 1 with fail
  obtain ⟨X, hX⟩ : ∃ X, w.heap.size = X := ⟨_, rfl⟩
  rw [hX] at HS0
  rw [hX]
  clear hX
  generalize w.alloc (.cells #[.int .i64 g, .slice (some ⟨b, off, none⟩) n cap] 24) = W0 at HS0 ⊢
  have HO0 : Hid (OwnX (W0.alloc (.cells #[.int .u64 g, .int .u64 (n : Int)] 45)) W0.heap.size (.slice (some ⟨W0.heap.size, 0, none⟩) 2 2) (wordsT c 0)) := hid (by
    have h := OwnX.two W0 W0.heap.size g (n : Int) (Nat.le_refl _)
    rw [← HG.out, ← HN.out] at h ⊢
    exact h)
  have HB0 : Hid (Below W0.heap.size W0 (W0.alloc (.cells #[.int .u64 g, .int .u64 (n : Int)] 45))) := hid ((Below.refl _ W0).alloc (Nat.le_refl _) _)
  obtain ⟨z0, z1, zl⟩ := HS0.out.box
  go_wp2_with fail
  clear z0 z1 zl wg wn
  obtain ⟨E, hE⟩ : ∃ E, W0.heap.size = E := ⟨_, rfl⟩
  rw [hE] at HO0 HB0
  rw [hE]
  have HEE := hid hE
  clear hE
  generalize W0.alloc (.cells #[.int .u64 g, .int .u64 (n : Int)] 45) = W2 at HO0 HB0 ⊢
  go_loopg [3, 4] n (fun q s i wr => ∃ (t : Nat) (v : Value), t ≤ n ∧ q = n - t ∧ s = v ∧ i = .int .i64 (t : Int) ∧ Hid (OwnX wr E v (wordsT c t)) ∧ Hid (Below E W0 wr))
  case atStart => exact ⟨0, _, by omega, rfl, rfl, rfl, HO0, HB0⟩
  case round =>
    clear HO0 HB0
    obtain ⟨t, v, ht, rfl, hv, rfl, HO, HB⟩ := hrel
    obtain rfl := hv.symm
    have hs : E ≤ wr.heap.size := by have h1 := HB.out.size; have h2 := HEE.out; omega
    have HSW : Hid (∀ W, Below E W0 W → StW w W X g (.slice (some ⟨b, off, none⟩) n cap)) := hid (fun W h => HS0.out.next (by rw [HEE.out]; exact h))
    obtain ⟨z0, z1, zl⟩ := (HSW.out _ HB.out).box
    by_cases htl : t < n
    · obtain ⟨l, hl⟩ : ∃ l, c.layers[t]? = some l := ⟨c.layers[t]'(by rw [HN.out]; exact htl), by simp⟩
      obtain ⟨b', off', eb, hcc⟩ := HR.out.kept (HSW.out _ HB.out).bel (by intro e; have := HN.out; rw [e] at this; simp at this; omega)
      cases eb
      obtain ⟨x0, x1, _, _⟩ := hcc t l hl
      rw [Nat.mul_comm 2 t] at x0 x1
      have hlr := (HC.out.layer t l hl).1
      have hfew := gates_few HC.out hl
      have hgo := (HC.out.layer t l hl).2.2
      have hbel := belowQ_rng HC.out t
      have klen := wordsT_len HC.out t
      obtain ⟨lg, hlg⟩ : ∃ x, l.log = x := ⟨_, rfl⟩
      obtain ⟨m, hm⟩ : ∃ x, l.gates.length = x := ⟨_, rfl⟩
      obtain ⟨ga, hga⟩ : ∃ x, A t = x := ⟨_, rfl⟩
      obtain ⟨gc, hgc⟩ : ∃ x, C t = x := ⟨_, rfl⟩
      have HLY : Hid (∀ W, Below E W0 W → W.cell? ⟨b, off + t * 2 + 1, none⟩ = some (.slice ga m gc) ∧ GRow W ga l.gates) := hid (fun W h => by
        obtain ⟨b', off', eb, hcc⟩ := HR.out.kept (HSW.out _ h).bel (by intro e; have := HN.out; rw [e] at this; simp at this; omega)
        cases eb
        obtain ⟨_, y1, y2, _⟩ := hcc t l hl
        rw [Nat.mul_comm 2 t, hm, hga, hgc] at y1
        rw [hga] at y2
        exact ⟨y1, y2⟩)
      rw [hlg] at x0 hlr
      rw [hm] at hfew
      have wl : IntKind.u64.wrap lg = lg := by rw [IntKind.wrap_u64]; omega
      have HL := hid (And.intro hl (And.intro hlg hm))
      have HGO := hid (And.intro hgo hbel)
      clear hcc hl hlg hm hga hgc hgo hbel x1
      have t0 : (0 : Int) ≤ (t : Int) := by omega
      have t1 : (t : Int) < (n : Int) := by omega
      go_wp2_with (at_builtin; refine wpList_append_lies _ rfl _ _ 25 rfl E 45 i0 (.int .u64 0) 1 8 Tryd.underlying25 HI.out.1 HI.out.2.1 HI.out.2.2.1 HI.out.2.2.2 rfl (by decide) v (wordsT c t).length ((wordsT c t).map (Value.int .u64)) rfl (World.ownsRow.alloc HO.out _) ⟨wr.heap.size, 0, none⟩ 1 1 [.int .u64 lg] rfl rfl (dnews wr lg _) (done1 lg) (by omega) (by unfold maxLen; omega) (by omega) (by simp; omega) (wr.heap.size + 1) (by simp) ?_)
      intro g6 c6 w6 hown6 hgrow6 hat6 hlt6
      have HX6 := hid (xsnoc (ys := [lg]) HB.out hs HO.out hown6 hgrow6)
      clear hown6 hgrow6 hat6 hlt6 HO HB wl x0 z0 z1 zl hs
      go_wp2_with fail
      go_loopg [3, 5] m (fun q s i wx => ∃ (k : Nat) (u : Value), k ≤ m ∧ q = m - k ∧ s = u ∧ i = .int .i64 (k : Int) ∧ Hid (OwnX wx E u (wordsT c t ++ lg :: gsW (l.gates.take k))) ∧ Hid (Below E W0 wx))
      case atStart => exact ⟨0, _, by omega, rfl, rfl, rfl, hid (by rw [List.take_zero]; exact HX6.out.1), hid HX6.out.2⟩
      case round =>
        clear HX6
        obtain ⟨k, u, hk, rfl, hu, rfl, HO, HB⟩ := hrel
        obtain rfl := hu.symm
        have hs : E ≤ wr.heap.size := by have h1 := HB.out.size; have h2 := HEE.out; omega
        obtain ⟨z0, z1, zl⟩ := (HSW.out _ HB.out).box
        obtain ⟨y1, hgr⟩ := HLY.out _ HB.out
        by_cases hkl : k < m
        · obtain ⟨q, hq⟩ : ∃ q, l.gates[k]? = some q := ⟨l.gates[k]'(by rw [HL.out.2.2]; exact hkl), by simp⟩
          obtain ⟨gb, go, rfl, hgc⟩ := hgr (by intro e; have := HL.out.2.2; rw [e] at this; simp at this; omega)
          obtain ⟨q0, q1, q2⟩ := hgc k q hq
          rw [Nat.mul_comm 3 k] at q0 q1 q2
          obtain ⟨⟨a0, a1⟩, b0, b1⟩ := HGO.out.1 q (List.mem_of_getElem? hq)
          obtain ⟨bk, hbk, bk4⟩ := HGO.out.2
          have h16 : 2 ^ bk ≤ 16 := Nat.le_trans (Nat.pow_le_pow_right (by omega) bk4) (by decide)
          rw [hbk, Int.toNat_natCast] at a1 b1
          have HNX : Hid (gsW (l.gates.take (k + 1)) = gsW (l.gates.take k) ++ [if q.mul = true then 1 else 0, q.a, q.b]) := hid (gsW_next hq)
          have hlen : (wordsT c t ++ lg :: gsW (l.gates.take k)).length ≤ 3 + 49 * t + 3 * k := by
            rw [List.length_append, List.length_cons]
            have := take_few l.gates k
            omega
          obtain ⟨xs, hxs⟩ : ∃ xs, wordsT c t ++ lg :: gsW (l.gates.take k) = xs := ⟨_, rfl⟩
          rw [hxs] at HO hlen
          have HXS := hid hxs
          obtain ⟨mb, hmb⟩ : ∃ x, q.mul = x := ⟨_, rfl⟩
          obtain ⟨qa, hqa⟩ : ∃ x, q.a = x := ⟨_, rfl⟩
          obtain ⟨qb, hqb⟩ : ∃ x, q.b = x := ⟨_, rfl⟩
          rw [hmb, hqa, hqb] at HNX
          rw [hmb] at q0
          rw [hqa] at q1 a0 a1
          rw [hqb] at q2 b0 b1
          have wa : IntKind.u64.wrap qa = qa := by rw [IntKind.wrap_u64]; omega
          have wb : IntKind.u64.wrap qb = qb := by rw [IntKind.wrap_u64]; omega
          clear hgc hq hmb hqa hqb hbk hxs a0 a1 b0 b1 bk4 h16 hgr
          have k0 : (0 : Int) ≤ (k : Int) := by omega
          have k1 : (k : Int) < (m : Int) := by omega
          have t0 : (0 : Int) ≤ (t : Int) := by omega
          have t1 : (t : Int) < (n : Int) := by omega
          have hal := (Below.refl wr.heap.size wr).alloc (Nat.le_refl _) (.cells #[.bool mb, .int .i64 qa, .int .i64 qb] 69)
          have HB3 := hid (HB.out.trans (hal.mono hs))
          have HO3 := hid (HO.out.kept hal)
          have hs3 : E ≤ (wr.alloc (.cells #[.bool mb, .int .i64 qa, .int .i64 qb] 69)).heap.size := by simp; omega
          have HTH : Hid (ThreeC wr.heap.size (.bool mb) (.int .i64 qa) (.int .i64 qb) (wr.alloc (.cells #[.bool mb, .int .i64 qa, .int .i64 qb] 69))) := hid ⟨by rw [World.cell?_alloc_new]; rfl, by rw [World.cell?_alloc_new]; rfl, by rw [World.cell?_alloc_new]; rfl⟩
          clear hal
          go_upto_region 10 with fail
          clear q0 q1 q2 k0 k1 z0 z1 zl y1 t0 t1
          obtain ⟨GB, hGB⟩ : ∃ x, wr.heap.size = x := ⟨_, rfl⟩
          rw [hGB] at HTH
          rw [hGB]
          clear hGB hs HO HB
          generalize wr.alloc (.cells #[.bool mb, .int .i64 qa, .int .i64 qb] 69) = W3 at HB3 HO3 HTH hs3 ⊢
          obtain ⟨th0, th1, th2⟩ := HTH.out
          cases mb with
          | true =>
            go_wp2_with (at_builtin; refine wpList_append_lies _ rfl _ _ 25 rfl E 45 i0 (.int .u64 0) 1 8 Tryd.underlying25 HI.out.1 HI.out.2.1 HI.out.2.2.1 HI.out.2.2.2 rfl (by decide) u xs.length (xs.map (Value.int .u64)) rfl (World.ownsRow.alloc HO3.out _) ⟨W3.heap.size, 0, none⟩ 3 3 [.int .u64 1, .int .u64 qa, .int .u64 qb] rfl rfl (three_news W3 1 qa qb _) (three_one 1 qa qb) (by omega) (by unfold maxLen; omega) (by omega) (by simp; omega) (W3.heap.size + 1) (by simp) ?_)
            intro g6 c6 w6 hown6 hgrow6 hat6 hlt6
            have HX6 := hid (xsnoc (ys := [1, qa, qb]) HB3.out hs3 HO3.out hown6 hgrow6)
            clear hown6 hgrow6 hat6 hlt6 HTH HO3 HB3 hs3 wa wb hlen th0 th1 th2
            go_wp2_with fail
            go_roundg (m - (k + 1))
            case measure => go_light; omega
            case rel => exact ⟨k + 1, _, by omega, rfl, rfl, by go_num, hid (by
              have hn := HNX.out
              simp only [if_pos] at hn
              rw [hn, ← List.cons_append, ← List.append_assoc, HXS.out]
              exact HX6.out.1), hid HX6.out.2⟩
          | false =>
            go_wp2_with (at_builtin; refine wpList_append_lies _ rfl _ _ 25 rfl E 45 i0 (.int .u64 0) 1 8 Tryd.underlying25 HI.out.1 HI.out.2.1 HI.out.2.2.1 HI.out.2.2.2 rfl (by decide) u xs.length (xs.map (Value.int .u64)) rfl (World.ownsRow.alloc HO3.out _) ⟨W3.heap.size, 0, none⟩ 3 3 [.int .u64 0, .int .u64 qa, .int .u64 qb] rfl rfl (three_news W3 0 qa qb _) (three_one 0 qa qb) (by omega) (by unfold maxLen; omega) (by omega) (by simp; omega) (W3.heap.size + 1) (by simp) ?_)
            intro g6 c6 w6 hown6 hgrow6 hat6 hlt6
            have HX6 := hid (xsnoc (ys := [0, qa, qb]) HB3.out hs3 HO3.out hown6 hgrow6)
            clear hown6 hgrow6 hat6 hlt6 HTH HO3 HB3 hs3 wa wb hlen th0 th1 th2
            go_wp2_with fail
            go_roundg (m - (k + 1))
            case measure => go_light; omega
            case rel => exact ⟨k + 1, _, by omega, rfl, rfl, by go_num, hid (by
              have hn := HNX.out
              simp only [Bool.false_eq_true, if_false] at hn
              rw [hn, ← List.cons_append, ← List.append_assoc, HXS.out]
              exact HX6.out.1), hid HX6.out.2⟩
        · have e : k = m := by omega
          subst e
          have k1 : ¬ ((k : Int) < (k : Int)) := by omega
          have t0 : (0 : Int) ≤ (t : Int) := by omega
          have t1 : (t : Int) < (n : Int) := by omega
          go_wp2_with fail
          go_roundg (n - (t + 1))
          case measure => go_light; omega
          case rel => exact ⟨t + 1, _, by omega, rfl, rfl, by go_num, hid (by
            have h := HO.out
            rw [List.take_of_length_le (by rw [HL.out.2.2]; exact Nat.le_refl _), ← HL.out.2.1] at h
            rw [wordsT_next HL.out.1]
            exact h), HB⟩
    · have e : t = n := by omega
      have t1 : ¬ ((t : Int) < (n : Int)) := by omega
      go_wp2_with fail
      go_ret
      refine ⟨_, rfl, ?_, (HSW.out _ HB.out).bel⟩
      have h := HO.out.own
      rw [e, ← HN.out] at h
      exact World.ownsRow.mono h (by rw [← HEE.out]; exact HS0.out.bel.size)

end Go.Proofs.YtmjpcmeinlkfbaaDoor

/-
  A contract of tallyref's Drawn, of right things.
-/
namespace Go.Proofs.YtmjpcmeinlkfbaaDoor
open Go.RowKit
set_option linter.unusedVariables false
attribute [local go_sem ↓] Go.wp_at_zero Go.wp_at_succ

/-- A sponge in block S, and what it has given. -/
structure DrS (W : World) (S : Nat) (g : Nat → K) (D : Nat → Int) (n : Nat) (v : Value) : Prop where
  own : Own W S v n D
  sr : Row W S 0 3 (numsK g)
  sf : Free W S 0 3
  vS : v.ownBlock ≠ some S
theorem DrS.ltS {W : World} {S : Nat} {g : Nat → K} {D : Nat → Int} {n : Nat} {v : Value} (h : DrS W S g D n v) : S < W.heap.size := h.sr.lt (by omega)
theorem DrS.kept {W W' : World} {S : Nat} {g : Nat → K} {D : Nat → Int} {n : Nat} {v : Value} (h : DrS W S g D n v) (hb : Below W.heap.size W W') : DrS W' S g D n v := ⟨h.own.kept hb, h.sr.kept hb h.ltS, h.sf.kept hb h.ltS, h.vS⟩
theorem DrS.congr {W : World} {S : Nat} {g : Nat → K} {D D' : Nat → Int} {n : Nat} {v : Value} (h : DrS W S g D n v) (e : ∀ j, j < n → D j = D' j) : DrS W S g D' n v := ⟨h.own.congr e, h.sr, h.sf, h.vS⟩
theorem DrS.turn {W W1 : World} {S : Nat} {g g' : Nat → K} {D : Nat → Int} {n : Nat} {v : Value} (h : DrS W S g D n v) (ht : Turned S W W1) (hr : Row W1 S 0 3 (numsK g')) (hf : Free W1 S 0 3) : DrS W1 S g' D n v := by
  refine ⟨⟨h.own.1, ?_⟩, hr, hf, h.vS⟩
  rcases h.own.2 with h2 | ⟨q, cap, cur, hv, hg, hh, r⟩
  · exact .inl h2
  · have hne : q ≠ S := fun e => h.vS (by rw [hv, e]; rfl)
    exact .inr ⟨q, cap, cur, hv, hg, (ht.block q (Array.getElem?_eq_some_iff.1 hh).1 hne).trans hh, r⟩
theorem DrS.put {W W1 : World} {S : Nat} {g : Nat → K} {D : Nat → Int} {n : Nat} {v : Value} {y : Int} {g2 c2 : Nat} {o : Obj} (h : DrS W S g D n v)
    (h6 : W1.ownsRow S 45 1 (.slice (some ⟨g2, 0, none⟩) (n + 1) c2) (n + 1) (cellsOf n D ++ [.int .u64 y])) (hg : (W.alloc o).grownBy W1 v.ownBlock) (hat : v.ownBlock = some g2 ∨ g2 = W.heap.size + 1) :
    DrS W1 S g (catF n D (fun _ => y)) (n + 1) (.slice (some ⟨g2, 0, none⟩) (n + 1) c2) ∧ Below S W W1 := by
  have hal := (Below.refl W.heap.size W).alloc (Nat.le_refl _) o
  have hk := h.kept hal
  have hS : W1.heap[S]? = (W.alloc o).heap[S]? := hg.block S hk.ltS fun e => h.vS e.symm
  have hlt := h.ltS
  refine ⟨⟨?_, fun j hj => (World.cell?_of_block (w := W.alloc o) hS).trans (hk.sr j hj), fun j hj => (World.frozen?_of_block (w := W.alloc o) hS).trans (hk.sf j hj), fun e => ?_⟩, ?_⟩
  · unfold Own
    rw [← cellsOf_snoc]; exact h6
  · have e2 : g2 = S := Option.some.inj e
    rcases hat with e3 | e3
    · exact h.vS (by rw [e3, e2])
    · omega
  · exact ((Below.refl S W).alloc (by omega) o).grown hg (by simp; omega) fun k e => (World.ownsRow.lt h.own k e).1
theorem tkK_small {n : Nat} (h : n ≤ 1000) (g : Nat → K) (f : Nat → Int) : tkK g n f = takesK g n f n := by unfold tkK; rw [if_pos h]
theorem hear_round (a : Asked) (z : Nat) (p : PQ) {j i : Nat} (hi : i < p.rn j) (h : p.rl j i ≤ 1000) : hearP a z p (posF p.rn j + i + 1) = ⟨mixed (takesK (hearP a z p (posF p.rn j + i)).g (p.rl j i) (p.R j i) (p.rl j i)), catF (z + (posF p.rn j + i)) (hearP a z p (posF p.rn j + i)).D (fun _ => ofK (takesK (hearP a z p (posF p.rn j + i)).g (p.rl j i) (p.R j i) (p.rl j i) 1))⟩ := by
  have m0 : PM := ⟨fun _ => none, fun _ => none, fun _ => 0, fun _ => 0, fun _ _ => none, fun _ _ => 0⟩
  obtain ⟨e1, e2, _, _⟩ := ls_round p m0 hi
  rw [hearP, Asked.hear, e1, e2, tkK_small h]
theorem hear_line (a : Asked) (z : Nat) (p : PQ) (j : Nat) (h : p.ln j ≤ 1000) : hearP a z p (posF p.rn j + p.rn j + 1) = ⟨mixed (takesK (hearP a z p (posF p.rn j + p.rn j)).g (p.ln j) (p.L j) (p.ln j)), catF (z + (posF p.rn j + p.rn j)) (hearP a z p (posF p.rn j + p.rn j)).D (fun _ => ofK (takesK (hearP a z p (posF p.rn j + p.rn j)).g (p.ln j) (p.L j) (p.ln j) 1))⟩ := by
  have m0 : PM := ⟨fun _ => none, fun _ => none, fun _ => 0, fun _ => 0, fun _ _ => none, fun _ _ => 0⟩
  obtain ⟨e1, e2, _, _⟩ := ls_line p m0 j
  rw [hearP, Asked.hear, e1, e2, tkK_small h]
def drawnOut (c : CQ) (ni no : Nat) (fi fo : Nat → Int) (p : PQ) (w : World) (e : Ending) (w' : World) : Prop := ∃ v, e = .returned v ∧ Own w' w.heap.size v (needQ c) (fiatD c ni no fi fo p) ∧ Below w.heap.size w w'

set_option maxHeartbeats 8000000 in
set_option maxRecDepth 100000 in
theorem rdrawn_any (c : CQ) (g : Int) (b off n cap : Nat) (A : Nat → Option Addr) (C : Nat → Nat) (ai ao : Option Addr) (ni ci no co : Nat) (fi fo : Nat → Int) (ap : Option Addr) (np cp : Nat) (p : PQ) (m : PM) (w : World) (hg : c.log = g) (hn : c.layers.length = n) (hr : CRow w (some ⟨b, off, none⟩) c.layers A C) (hc : c.right) (hp : p.n = np) (hpr : PfRow w ap p m) (hpn : p.nums) (hs : shapedQ c p) (hi : PRow w ai ni fi) (vi : Nums fi) (i1 : ni ≤ 1000) (ho : PRow w ao no fo) (vo : Nums fo) (o1 : no ≤ 1000) :
    Calls Tryd.prog 54 #[.agg #[.int .i64 g, .slice (some ⟨b, off, none⟩) n cap], .slice ai ni ci, .slice ao no co, .agg #[.slice ap np cp]] w fun e w' => drawnOut c ni no fi fo p w e w' := by
  obtain ⟨i0, hi0, hz0, hz1, hz2⟩ := info_parts Tryd.infoO
  have HIN := hid (And.intro hi0 (And.intro hz0 (And.intro hz1 hz2)))
  have n4 : n ≤ 4 := by have := hc.few; omega
  have n1 : 1 ≤ n := by have := List.length_pos_iff.2 hc.some; omega
  have hnp : np = n := by rw [← hp, hs.1, hn]
  obtain ⟨h8, hneed⟩ := shaped_few hc hs
  have hq40 := needQ_le hc
  obtain ⟨last, rfl⟩ : ∃ m, n = m + 1 := ⟨n - 1, by omega⟩
  obtain ⟨l0, hl0, hz0', _, _, _⟩ := parts_layer hc (j := 0) (by omega)
  rw [hn, show last + 1 - 1 - 0 = last from by omega] at hl0
  obtain ⟨lk, hlk⟩ : ∃ x, (partsQ c).lg 0 = x := ⟨_, rfl⟩
  have lk4 : lk ≤ 4 := by rw [← hlk]; exact parts_lg hc 0
  have hlog0 : l0.log = (lk : Int) := by rw [← hlk, hz0']; have := (hc.layer last l0 hl0).1; omega
  rw [hlk] at hneed
  have HS0 := hid (StQ.start w g (.slice (some ⟨b, off, none⟩) (last + 1) cap) (.slice ap np cp) 24 33)
  have HWO := hid (fun W (h : Below w.heap.size w W) => rwords_ok c g b off (last + 1) cap A C W hg hn (hr.kept h) hc)
  have HX0 : Hid (∀ W, Below w.heap.size w W → W.cell? ⟨b, off + last * 2, none⟩ = some (.int .i64 (lk : Int))) := hid (fun W h => by
    obtain ⟨b', off', eb, hcc⟩ := hr.kept h hc.some
    cases eb
    have := (hcc last l0 hl0).1
    rw [Nat.mul_comm 2 last, hlog0] at this
    exact this)
  have HI := hid (And.intro hi vi)
  have HO := hid (And.intro ho vo)
  have HVW := hid (words_nums hc)
  have hnw : (cwordsQ c).length ≤ 1000 := by have := wordsT_len hc c.layers.length; have h2 := hc.few; unfold cwordsQ; omega
  have HNW := hid hnw
  obtain ⟨G3, hG3⟩ : ∃ x, askG c ni no fi fo = x := ⟨_, rfl⟩
  have hG : takesK (takesK (takesK (mixed (newK 1)) (cwordsQ c).length (rowOf (cwordsQ c)) (cwordsQ c).length) ni fi ni) no fo no = G3 := by rw [← hG3]; unfold askG; rw [tkK_small hnw, tkK_small i1, tkK_small o1]
  obtain ⟨G1, hG1⟩ : ∃ x, takesK (mixed (newK 1)) (cwordsQ c).length (rowOf (cwordsQ c)) (cwordsQ c).length = x := ⟨_, rfl⟩
  obtain ⟨G2, hG2⟩ : ∃ x, takesK G1 ni fi ni = x := ⟨_, rfl⟩
  rw [hG1, hG2] at hG
  have HGS := hid (And.intro hG1 (And.intro hG2 hG))
  obtain ⟨a, ha⟩ : ∃ x, ask1 c ni no fi fo = x := ⟨_, rfl⟩
  have HAE : Hid (a.g = mixN G3 lk ∧ a.D = fun i => ofK (mixN G3 i 1)) := hid (by rw [← ha]; unfold ask1 ask0; rw [hG3, hlk]; exact ⟨rfl, rfl⟩)
  have HFD : Hid (fiatD c ni no fi fo p = (hearP a lk p (allL p)).D ∧ needQ c = lk + allL p) := hid ⟨by unfold fiatD; rw [ha, hlk], hneed⟩
  have HRL : Hid (∀ j, j < np → p.rn j ≤ 8 ∧ p.ln j ≤ 1000 ∧ (∀ i, i < p.rn j → p.rl j i ≤ 1000) ∧ (∀ i, i < p.rn j → Nums (p.R j i)) ∧ Nums (p.L j)) := hid (fun j hj => by
    have hj' : j < p.n := by rw [hp]; exact hj
    obtain ⟨s1, s2, s3⟩ := hs.2 j hj'
    have := parts_lg hc (j + 1)
    exact ⟨h8 j (by rw [hn, ← hnp]; exact hj), by omega, fun i hi => by rw [s3 i hi]; omega, (hpn j hj').1, (hpn j hj').2⟩)
  have HPO : Hid (∀ j, j ≤ np → posF p.rn j ≤ 9 * j) := hid (fun j hj => pos_few (n := np) (fun j hj => (HRL.out j hj).1) j hj)
  have HAL : Hid (allL p = posF p.rn np) := hid (by unfold allL; rw [hp])
  have np4 : np ≤ 4 := by omega
  have np1 : 1 ≤ np := by omega
  have HPR := hid (And.intro hp hpr)
  have HTI := hid (And.intro i1 o1)
  clear hr hc hg hn hi vi ho vo hpr hpn hs hp h8 hneed hG hG1 hG2 hG3 ha hl0 hz0' hlog0 hlk hnw hi0 hz0 hz1 hz2 hq40 i1 o1 hnp
  go_enter Tryd.func54, Tryd.ntmps54
  go_wp2_with fail
  obtain ⟨X, hX⟩ : ∃ X, w.heap.size = X := ⟨_, rfl⟩
  rw [hX] at HS0
  rw [hX]
  clear hX
  generalize (w.alloc (.cells #[.int .i64 g, .slice (some ⟨b, off, none⟩) (last + 1) cap] 24)).alloc (.cells #[.slice ap np cp] 33) = W0 at HS0 ⊢
  refine (rnew_any 1 W0 (by omega) (by omega)).mono ?_
  rintro e w1 ⟨rfl, hb, hlt, hrw, hfw⟩
  have hA1 : DrS w1 W0.heap.size (mixed (newK 1)) (fun i => ofK (mixN G3 i 1)) 0 (.slice none 0 0) := ⟨Own.nil _ _ _, hrw, hfw, fun e => by cases e⟩
  obtain ⟨S, hS⟩ : ∃ x, W0.heap.size = x := ⟨_, rfl⟩
  have HK : Hid (∀ W, Below S W0 W → StQ w W X g (.slice (some ⟨b, off, none⟩) (last + 1) cap) (.slice ap np cp)) := hid (fun W h => HS0.out.next (by rw [hS]; exact h))
  have HWS : Hid (w.heap.size ≤ S) := hid (by rw [← hS]; exact HS0.out.bel.size)
  rw [hS] at hb hA1
  rw [hS]
  have HA1 := hid hA1
  have HB1 := hid hb
  clear hb hlt hrw hfw hA1 hS HS0
  obtain ⟨z0, z1, zl⟩ := (HK.out _ HB1.out).box
  go_wp2_with fail
  refine (HWO.out _ (HK.out _ HB1.out).bel).mono ?_
  rintro e w2 ⟨vw, rfl, hown, hb⟩
  obtain ⟨aw, cw, hvw, hpw, _⟩ := hown.is
  subst hvw
  have HA2 := hid (HA1.out.kept hb)
  have HB2 := hid (HB1.out.trans (hb.mono (Nat.le_of_lt HA1.out.ltS)))
  have hnew : 0 < (cwordsQ c).length → ∀ c' o, aw = some ⟨c', o, none⟩ → c' ≠ S := fun _ c' o e => by
    have h1 := (World.ownsRow.lt hown c' (by rw [e]; rfl)).1
    have h2 := HA1.out.ltS
    omega
  have HTW := hid (rtake_any S _ aw (cwordsQ c).length cw (rowOf (cwordsQ c)) w2 HA2.out.sr HA2.out.sf HNW.out hpw HVW.out hnew)
  obtain ⟨nw, hnw⟩ : ∃ x, (cwordsQ c).length = x := ⟨_, rfl⟩
  rw [hnw] at HTW HGS
  rw [hnw]
  clear hb hown hpw hnew hnw HA1 HB1 HWO z0 z1 zl
  go_wp2_with fail
  refine (HTW.out).mono ?_
  rintro e w3 ⟨rfl, ht, hr3, hf3⟩
  rw [HGS.out.1] at hr3
  have HA3 := hid (HA2.out.turn ht hr3 hf3)
  have HB3 := hid (HB2.out.trans (ht.below (Nat.le_refl _) (Nat.le_of_lt HA2.out.ltS)))
  clear ht hr3 hf3 HA2 HB2 HTW
  go_wp2_with fail
  refine (rtake_any S _ ai ni ci fi w3 HA3.out.sr HA3.out.sf HTI.out.1 (HI.out.1.kept (HK.out _ HB3.out).bel) HI.out.2 (prow_ne HI.out.1 HWS.out)).mono ?_
  rintro e w4 ⟨rfl, ht, hr3, hf3⟩
  rw [HGS.out.2.1] at hr3
  have HA4 := hid (HA3.out.turn ht hr3 hf3)
  have HB4 := hid (HB3.out.trans (ht.below (Nat.le_refl _) (Nat.le_of_lt HA3.out.ltS)))
  clear ht hr3 hf3 HA3 HB3
  go_wp2_with fail
  refine (rtake_any S _ ao no co fo w4 HA4.out.sr HA4.out.sf HTI.out.2 (HO.out.1.kept (HK.out _ HB4.out).bel) HO.out.2 (prow_ne HO.out.1 HWS.out)).mono ?_
  rintro e w5 ⟨rfl, ht, hr3, hf3⟩
  rw [HGS.out.2.2] at hr3
  have HA5 := hid (HA4.out.turn ht hr3 hf3)
  have HB5 := hid (HB4.out.trans (ht.below (Nat.le_refl _) (Nat.le_of_lt HA4.out.ltS)))
  clear ht hr3 hf3 HA4 HB4 HGS
  go_wp2_with fail
  go_loopg [10, 11] lk (fun q s i wr => ∃ (k : Nat) (v : Value), k ≤ lk ∧ q = lk - k ∧ s = v ∧ i = .int .i64 (k : Int) ∧ Hid (DrS wr S (mixN G3 k) (fun i => ofK (mixN G3 i 1)) k v) ∧ Hid (Below S W0 wr))
  case atStart => exact ⟨0, _, by omega, rfl, rfl, rfl, HA5, HB5⟩
  case round =>
    clear HA5 HB5
    obtain ⟨k, v, hk, rfl, hv, rfl, HA, HB⟩ := hrel
    obtain rfl := hv.symm
    obtain ⟨z0, z1, zl⟩ := (HK.out _ HB.out).box
    have zx := HX0.out _ (HK.out _ HB.out).bel
    have s0 : (0 : Int) ≤ (last : Int) := by omega
    have s1 : (last : Int) < (last : Int) + 1 := by omega
    by_cases hkl : k < lk
    · have k1 : (k : Int) < (lk : Int) := by omega
      obtain ⟨y, hy⟩ : ∃ y, ofK (mixN G3 k 1) = y := ⟨_, rfl⟩
      have hgv := rgive_any S (mixN G3 k) wr HA.out.sr HA.out.sf
      rw [hy] at hgv
      have HGV := hid hgv
      have HYY := hid hy
      clear hy hgv
      go_wp2_with fail
      refine (HGV.out).mono ?_
      rintro e w6 ⟨rfl, ht, hr3, hf3⟩
      have HA6 := hid (HA.out.turn ht hr3 hf3)
      have HB6 := hid (HB.out.trans (ht.below (Nat.le_refl _) (Nat.le_of_lt HA.out.ltS)))
      have hs6 : S < w6.heap.size := HA6.out.ltS
      clear ht hr3 hf3 HA HB HGV z0 z1 zl zx s0 s1
      go_wp2_with (at_builtin; refine wpList_append_lies _ rfl _ _ 25 rfl S 45 i0 (.int .u64 0) 1 8 Tryd.underlying25 HIN.out.1 HIN.out.2.1 HIN.out.2.2.1 HIN.out.2.2.2 rfl (by decide) v k (cellsOf k (fun i => ofK (mixN G3 i 1))) rfl (World.ownsRow.alloc HA6.out.own _) ⟨w6.heap.size, 0, none⟩ 1 1 [.int .u64 y] rfl rfl (dnews w6 y _) (done1 y) (by omega) (by unfold maxLen; omega) (by omega) (by simp; omega) (w6.heap.size + 1) (by simp) ?_)
      intro g6 c6 w8 hown6 hgrow6 hat6 hlt6
      have HP7 := hid (HA6.out.put hown6 hgrow6 hat6)
      clear hown6 hgrow6 hat6 hlt6
      go_wp2_with fail
      go_roundg (lk - (k + 1))
      case measure => go_light; omega
      case rel => exact ⟨k + 1, _, by omega, rfl, rfl, by go_num, hid (HP7.out.1.congr fun j hj => by
        unfold catF
        by_cases e : j < k
        · rw [if_pos e]
        · rw [if_neg e, show j = k from by omega, HYY.out]), hid (HB6.out.trans HP7.out.2)⟩
    · have e : k = lk := by omega
      have k1 : ¬ ((k : Int) < (lk : Int)) := by omega
      have HA0 : Hid (DrS wr S (hearP a lk p (posF p.rn 0)).g (hearP a lk p (posF p.rn 0)).D (lk + posF p.rn 0) v) := hid (by
        show DrS wr S a.g a.D (lk + 0) v
        rw [HAE.out.1, HAE.out.2, ← e]
        exact HA.out)
      have HBZ := hid HB.out
      clear HA HB e
      go_wp2_with fail
      clear z0 z1 zl zx s0 s1 k1
      go_loopg [10, 12] np (fun q s i wr => ∃ (j : Nat) (v : Value), j ≤ np ∧ q = np - j ∧ s = v ∧ i = .int .i64 (j : Int) ∧ Hid (DrS wr S (hearP a lk p (posF p.rn j)).g (hearP a lk p (posF p.rn j)).D (lk + posF p.rn j) v) ∧ Hid (Below S W0 wr))
      case atStart => exact ⟨0, _, by omega, rfl, rfl, rfl, HA0, HBZ⟩
      case round =>
        clear HA0 HBZ
        obtain ⟨j, v, hj, rfl, hv, rfl, HA, HB⟩ := hrel
        obtain rfl := hv.symm
        have zp := (HK.out _ HB.out).pc
        by_cases hjl : j < np
        · have j0 : (0 : Int) ≤ (j : Int) := by omega
          have j1 : (j : Int) < (np : Int) := by omega
          obtain ⟨rn, hrn⟩ : ∃ x, p.rn j = x := ⟨_, rfl⟩
          obtain ⟨ln, hln⟩ : ∃ x, p.ln j = x := ⟨_, rfl⟩
          have HRJ := hid (HRL.out j hjl)
          have hr8 : rn ≤ 8 := by rw [← hrn]; exact HRJ.out.1
          have hpo : posF p.rn j ≤ 27 := by have := HPO.out j (by omega); omega
          have HROW : Hid (∀ W, Below w.heap.size w W → ∃ pb po, ap = some ⟨pb, po, none⟩ ∧ W.cell? ⟨pb, po + j * 2, none⟩ = some (.slice (m.ra j) rn (m.rc j)) ∧ W.cell? ⟨pb, po + j * 2 + 1, none⟩ = some (.slice (m.la j) ln (m.lc j)) ∧ LRow W (m.ra j) rn (m.A j) (p.rl j) (m.C j) (p.R j) ∧ PRow W (m.la j) ln (p.L j)) := hid (fun W h => by
            obtain ⟨pb, po, e1, hp1⟩ := HPR.out.2.kept h (by rw [HPR.out.1]; omega)
            obtain ⟨a1, a2, a3, a4⟩ := hp1 j (by rw [HPR.out.1]; exact hjl)
            rw [Nat.mul_comm 2 j, hrn] at a1
            rw [Nat.mul_comm 2 j, hln] at a2
            rw [hrn] at a3
            rw [hln] at a4
            exact ⟨pb, po, e1, a1, a2, a3, a4⟩)
          obtain ⟨ra, hra⟩ : ∃ x, m.ra j = x := ⟨_, rfl⟩
          obtain ⟨rc, hrc⟩ : ∃ x, m.rc j = x := ⟨_, rfl⟩
          obtain ⟨la, hla⟩ : ∃ x, m.la j = x := ⟨_, rfl⟩
          obtain ⟨lc, hlc⟩ : ∃ x, m.lc j = x := ⟨_, rfl⟩
          rw [hra, hrc, hla, hlc] at HROW
          obtain ⟨pb, po, hap, _⟩ := HROW.out _ (HK.out _ HB.out).bel
          subst hap
          have HRN := hid (And.intro hrn hln)
          obtain ⟨P0, hP0⟩ : ∃ x, posF p.rn j = x := ⟨_, rfl⟩
          have HP0 := hid hP0
          rw [hP0] at HA hpo
          clear hra hrc hla hlc hrn hln hP0
          go_wp2_with fail
          clear zp
          go_loopg [10, 13] rn (fun q s i wr => ∃ (i' : Nat) (v : Value), i' ≤ rn ∧ q = rn - i' ∧ s = v ∧ i = .int .i64 (i' : Int) ∧ Hid (DrS wr S (hearP a lk p (P0 + i')).g (hearP a lk p (P0 + i')).D (lk + (P0 + i')) v) ∧ Hid (Below S W0 wr))
          case atStart => exact ⟨0, _, by omega, rfl, rfl, rfl, HA, HB⟩
          case round =>
            clear HA HB
            obtain ⟨i, v, hi, rfl, hv, rfl, HA, HB⟩ := hrel
            obtain rfl := hv.symm
            have zp := (HK.out _ HB.out).pc
            obtain ⟨pb', po', eb, c0, c1, hlr, hlp⟩ := HROW.out _ (HK.out _ HB.out).bel
            injection eb with eb; injection eb with eb1 eb2
            subst eb1; subst eb2
            obtain ⟨gg, hgg⟩ : ∃ x, (hearP a lk p (P0 + i)).g = x := ⟨_, rfl⟩
            obtain ⟨DD, hDD⟩ : ∃ x, (hearP a lk p (P0 + i)).D = x := ⟨_, rfl⟩
            rw [hgg, hDD] at HA
            by_cases hil : i < rn
            · have i2 : (0 : Int) ≤ (i : Int) := by omega
              have i3 : (i : Int) < (rn : Int) := by omega
              obtain ⟨rb, ro, hra, hrr⟩ := hlr (by omega)
              subst hra
              obtain ⟨g0, g1⟩ := hrr i hil
              obtain ⟨lA, hlA⟩ : ∃ x, m.A j i = x := ⟨_, rfl⟩
              obtain ⟨lC, hlC⟩ : ∃ x, m.C j i = x := ⟨_, rfl⟩
              obtain ⟨lN, hlN⟩ : ∃ x, p.rl j i = x := ⟨_, rfl⟩
              have hl10 : lN ≤ 1000 := by rw [← hlN]; exact HRJ.out.2.2.1 i (by rw [HRN.out.1]; exact hil)
              have hstep := hear_round a lk p (j := j) (i := i) (by rw [HRN.out.1]; exact hil) (by rw [hlN]; exact hl10)
              rw [HP0.out, hgg, hDD, hlN] at hstep
              have HST := hid hstep
              rw [hlA, hlC, hlN] at g0
              rw [hlA, hlN] at g1
              have hpw : PRow w lA lN (p.R j i) := by
                obtain ⟨_, _, _, _, _, hlw, _⟩ := HROW.out _ (Below.refl _ w)
                obtain ⟨_, _, _, hw2⟩ := hlw (by omega)
                have := (hw2 i hil).2
                rw [hlA, hlN] at this
                exact this
              have HTK := hid (rtake_any S gg lA lN lC (p.R j i) wr HA.out.sr HA.out.sf hl10 g1 (HRJ.out.2.2.2.1 i (by rw [HRN.out.1]; exact hil)) (prow_ne hpw HWS.out))
              clear hrr g1 hlr hlp hstep hpw hgg hDD hlA hlC hlN c1
              go_wp2_with fail
              refine (HTK.out).mono ?_
              rintro e w6 ⟨rfl, ht, hr3, hf3⟩
              have HA6 := hid (HA.out.turn ht hr3 hf3)
              have HB6 := hid (HB.out.trans (ht.below (Nat.le_refl _) (Nat.le_of_lt HA.out.ltS)))
              clear ht hr3 hf3 HA HB HTK zp c0 g0
              obtain ⟨g7, hg7⟩ : ∃ x, takesK gg lN (p.R j i) lN = x := ⟨_, rfl⟩
              rw [hg7] at HA6 HST
              obtain ⟨y, hy⟩ : ∃ y, ofK (g7 1) = y := ⟨_, rfl⟩
              have hgv := rgive_any S g7 w6 HA6.out.sr HA6.out.sf
              rw [hy] at hgv HST
              have HGV := hid hgv
              clear hy hgv hg7
              go_wp2_with fail
              refine (HGV.out).mono ?_
              rintro e w7 ⟨rfl, ht, hr3, hf3⟩
              have HA7 := hid (HA6.out.turn ht hr3 hf3)
              have HB7 := hid (HB6.out.trans (ht.below (Nat.le_refl _) (Nat.le_of_lt HA6.out.ltS)))
              have hs7 : S < w7.heap.size := HA7.out.ltS
              clear ht hr3 hf3 HA6 HB6 HGV
              go_wp2_with (at_builtin; refine wpList_append_lies _ rfl _ _ 25 rfl S 45 i0 (.int .u64 0) 1 8 Tryd.underlying25 HIN.out.1 HIN.out.2.1 HIN.out.2.2.1 HIN.out.2.2.2 rfl (by decide) v (lk + (P0 + i)) (cellsOf (lk + (P0 + i)) DD) rfl (World.ownsRow.alloc HA7.out.own _) ⟨w7.heap.size, 0, none⟩ 1 1 [.int .u64 y] rfl rfl (dnews w7 y _) (done1 y) (by omega) (by unfold maxLen; omega) (by omega) (by simp; omega) (w7.heap.size + 1) (by simp) ?_)
              intro g6 c6 w8 hown6 hgrow6 hat6 hlt6
              have HP8 := hid (HA7.out.put hown6 hgrow6 hat6)
              clear hown6 hgrow6 hat6 hlt6
              go_wp2_with fail
              go_roundg (rn - (i + 1))
              case measure => go_light; omega
              case rel => exact ⟨i + 1, _, by omega, rfl, rfl, by go_num, hid (by
                rw [← Nat.add_assoc, HST.out]
                exact HP8.out.1), hid (HB7.out.trans HP8.out.2)⟩
            · have e : i = rn := by omega
              have i3 : ¬ ((i : Int) < (rn : Int)) := by omega
              have hl10 : ln ≤ 1000 := by rw [← HRN.out.2]; exact HRJ.out.2.1
              have hstep := hear_line a lk p j (by rw [HRN.out.2]; exact hl10)
              rw [HRN.out.1, HP0.out, ← e, hgg, hDD, HRN.out.2] at hstep
              have HST := hid hstep
              have hpw : PRow w la ln (p.L j) := by
                obtain ⟨_, _, _, _, _, _, hlw⟩ := HROW.out _ (Below.refl _ w)
                exact hlw
              have HTK := hid (rtake_any S gg la ln lc (p.L j) wr HA.out.sr HA.out.sf hl10 hlp HRJ.out.2.2.2.2 (prow_ne hpw HWS.out))
              have HPN : Hid (posF p.rn (j + 1) = P0 + i + 1) := hid (by rw [posF, HP0.out, HRN.out.1, e])
              clear hlr hlp hstep hpw hgg hDD e
              go_wp2_with fail
              refine (HTK.out).mono ?_
              rintro e w6 ⟨rfl, ht, hr3, hf3⟩
              have HA6 := hid (HA.out.turn ht hr3 hf3)
              have HB6 := hid (HB.out.trans (ht.below (Nat.le_refl _) (Nat.le_of_lt HA.out.ltS)))
              clear ht hr3 hf3 HA HB HTK zp c0 c1
              obtain ⟨g7, hg7⟩ : ∃ x, takesK gg ln (p.L j) ln = x := ⟨_, rfl⟩
              rw [hg7] at HA6 HST
              obtain ⟨y, hy⟩ : ∃ y, ofK (g7 1) = y := ⟨_, rfl⟩
              have hgv := rgive_any S g7 w6 HA6.out.sr HA6.out.sf
              rw [hy] at hgv HST
              have HGV := hid hgv
              clear hy hgv hg7
              go_wp2_with fail
              refine (HGV.out).mono ?_
              rintro e w7 ⟨rfl, ht, hr3, hf3⟩
              have HA7 := hid (HA6.out.turn ht hr3 hf3)
              have HB7 := hid (HB6.out.trans (ht.below (Nat.le_refl _) (Nat.le_of_lt HA6.out.ltS)))
              have hs7 : S < w7.heap.size := HA7.out.ltS
              clear ht hr3 hf3 HA6 HB6 HGV
              go_wp2_with (at_builtin; refine wpList_append_lies _ rfl _ _ 25 rfl S 45 i0 (.int .u64 0) 1 8 Tryd.underlying25 HIN.out.1 HIN.out.2.1 HIN.out.2.2.1 HIN.out.2.2.2 rfl (by decide) v (lk + (P0 + i)) (cellsOf (lk + (P0 + i)) DD) rfl (World.ownsRow.alloc HA7.out.own _) ⟨w7.heap.size, 0, none⟩ 1 1 [.int .u64 y] rfl rfl (dnews w7 y _) (done1 y) (by omega) (by unfold maxLen; omega) (by omega) (by simp; omega) (w7.heap.size + 1) (by simp) ?_)
              intro g6 c6 w8 hown6 hgrow6 hat6 hlt6
              have HP8 := hid (HA7.out.put hown6 hgrow6 hat6)
              clear hown6 hgrow6 hat6 hlt6
              go_wp2_with fail
              go_roundg (np - (j + 1))
              case measure => go_light; omega
              case rel => exact ⟨j + 1, _, by omega, rfl, rfl, by go_num, hid (by
                rw [HPN.out, HST.out, show lk + (P0 + i + 1) = lk + (P0 + i) + 1 from by omega]
                exact HP8.out.1), hid (HB7.out.trans HP8.out.2)⟩
        · have e : j = np := by omega
          have j1 : ¬ ((j : Int) < (np : Int)) := by omega
          have HBE := hid (HK.out _ HB.out).bel
          go_wp2_with fail
          go_ret
          refine ⟨_, rfl, ?_, HBE.out⟩
          rw [HFD.out.2, HFD.out.1, HAL.out, ← e]
          exact World.ownsRow.mono HA.out.own HWS.out

end Go.Proofs.YtmjpcmeinlkfbaaDoor

/-
  A contract of tallyref's Fiat, of a right circuit and as many inputs as it has: it tells the proof that is proved without asking; nothing that was there is written.
-/
namespace Go.Proofs.YtmjpcmeinlkfbaaDoor
open Go.RowKit
set_option linter.unusedVariables false
attribute [local go_sem ↓] Go.wp_at_zero Go.wp_at_succ

/-- The draws so far, and the proof that they give. -/
structure FiS (W2 W : World) (Y Q n : Nat) (c : CQ) (f Dc : Nat → Int) (aP : Option Addr) (cP : Nat) (m : PM) : Prop where
  md : Made W2 W Q Dc
  lo : W2.heap.size < Y
  c7 : W.cell? ⟨Y, 0, none⟩ = some (.slice aP n cP)
  f7 : W.frozen? ⟨Y, 0, none⟩ = false
  pf : PfRow W aP (rightP c f Dc) m
  fr : (∀ a, aP = some a → W2.heap.size ≤ a.block) ∧ ∀ j, j < n → PartA (fun q => W2.heap.size ≤ q) (rightP c f Dc) m j
theorem Made.kept1 {w W W' : World} {n : Nat} {f : Nat → Int} (h : Made w W n f) (hn : 0 < n) (hb : Below W.heap.size W W') : Made w W' n f := by
  have hl := h.row.lt hn
  exact ⟨h.below.trans (hb.mono h.below.size), h.row.kept hb hl, h.free.kept hb hl⟩
theorem Made.set1 {w W : World} {n Y : Nat} {f : Nat → Int} (h : Made w W n f) (hY : w.heap.size < Y) (u : Value) : Made w (W.setCell ⟨Y, 0, none⟩ u) n f :=
  ⟨h.below.setCell (by show w.heap.size ≤ Y; omega) u, fun j hj => (World.cell?_setCell_other _ _ _ _ (by intro e; simp only [Addr.mk.injEq] at e; omega)).trans (h.row j hj), fun j hj => by rw [World.frozen?_setCell]; exact h.free j hj⟩
theorem FiS.next {W2 W W' : World} {Y Q n : Nat} {c : CQ} {f Dc : Nat → Int} {aP : Option Addr} {cP : Nat} {m : PM} (h : FiS W2 W Y Q n c f Dc aP cP m) (hQ : 0 < Q) (hb : Below W.heap.size W W') : FiS W2 W' Y Q n c f Dc aP cP m :=
  ⟨h.md.kept1 hQ hb, h.lo, nkeep hb h.c7, (hb.frozen (World.block_lt_of_cell? W _ h.c7)).trans h.f7, h.pf.kept hb, h.fr⟩
/-- Another draw is put in, and the proof told anew. -/
theorem FiS.put {W2 W w4 : World} {Y Q n i : Nat} {x : Int} {c : CQ} {f Dc : Nat → Int} {aP aP' : Option Addr} {cP cP' : Nat} {m m' : PM} (h : FiS W2 W Y Q n c f Dc aP cP m) (hQ : 0 < Q) (hi : i < Q) (hn : c.layers.length = n)
    (hp : PfRow w4 aP' (rightP c f (fun k => if k = i then x else Dc k)) m') (hf : (∀ a, aP' = some a → (W.setCell ⟨W2.heap.size, i, none⟩ (.int .u64 x)).heap.size ≤ a.block) ∧ ∀ j, j < n → PartA (fun q => (W.setCell ⟨W2.heap.size, i, none⟩ (.int .u64 x)).heap.size ≤ q) (rightP c f (fun k => if k = i then x else Dc k)) m' j)
    (hb : Below (W.setCell ⟨W2.heap.size, i, none⟩ (.int .u64 x)).heap.size (W.setCell ⟨W2.heap.size, i, none⟩ (.int .u64 x)) w4) :
    (w4.cell? ⟨Y, 0, none⟩ = some (.slice aP n cP) ∧ w4.frozen? ⟨Y, 0, none⟩ = false) ∧ FiS W2 (w4.setCell ⟨Y, 0, none⟩ (.slice aP' n cP')) Y Q n c f (fun k => if k = i then x else Dc k) aP' cP' m' := by
  have md1 := h.md.store i x hi
  have hlo := h.lo
  have c1 : (W.setCell ⟨W2.heap.size, i, none⟩ (.int .u64 x)).cell? ⟨Y, 0, none⟩ = some (.slice aP n cP) := (World.cell?_setCell_other _ _ _ _ (by intro e; simp only [Addr.mk.injEq] at e; omega)).trans h.c7
  have f1 : (W.setCell ⟨W2.heap.size, i, none⟩ (.int .u64 x)).frozen? ⟨Y, 0, none⟩ = false := by rw [World.frozen?_setCell]; exact h.f7
  generalize W.setCell ⟨W2.heap.size, i, none⟩ (.int .u64 x) = W1 at hf hb md1 c1 f1
  have hl := World.block_lt_of_cell? W1 _ c1
  have hl : Y < W1.heap.size := hl
  have c4 := nkeep hb c1
  have f4 := (hb.frozen (p := ⟨Y, 0, none⟩) hl).trans f1
  refine ⟨⟨c4, f4⟩, (md1.kept1 hQ hb).set1 hlo _, hlo, World.cell?_setCell_same _ _ _ c4, by rw [World.frozen?_setCell]; exact f4, ?_, ⟨fun x hx => Nat.le_trans md1.below.size (hf.1 x hx), fun j hj => (hf.2 j hj).mono fun q hq => Nat.le_trans md1.below.size hq⟩⟩
  exact hp.keepS (S := fun q => W1.heap.size ≤ q) hf.1 (fun j hj => hf.2 j (by rw [← hn]; exact hj)) (fun q hq => Below.heap_setCell _ _ _ _ (by show q ≠ Y; omega))
theorem PartA.other {S : Nat → Prop} {c : CQ} {f D : Nat → Int} (D' : Nat → Int) {m : PM} {j : Nat} (h : PartA S (rightP c f D) m j) : PartA S (rightP c f D') m j := by
  unfold PartA at h ⊢
  exact ⟨h.1, h.2.1, h.2.2⟩
theorem PartA.fiat {S : Nat → Prop} {c : CQ} {f D : Nat → Int} (N M : Nat) {m : PM} {j : Nat} (h : PartA S (rightP c f D) m j) : PartA S (fiatP c N M f) m j := by
  unfold fiatP lastP
  exact h.other _
/-- What Fiat tells of right things. -/
def rfiatOut (c : CQ) (f : Nat → Int) (n N M : Nat) (w : World) (e : Ending) (w' : World) : Prop := ∃ (ao : Option Addr) (cap : Nat) (m : PM), e = .returned (.agg #[.slice ao n cap]) ∧ PfRow w' ao (fiatP c N M f) m ∧ ((∀ a, ao = some a → w.heap.size ≤ a.block) ∧ ∀ j, j < n → PartA (fun q => w.heap.size ≤ q) (fiatP c N M f) m j) ∧ Below w.heap.size w w'
theorem endD_u64 (c : CQ) (N M : Nat) (f : Nat → Int) (i : Nat) : 0 ≤ endD c N M f i ∧ endD c N M f i ≤ 18446744073709551615 := tell_nums (a := fiatA c N M f) (fun j => ofK_u64 _) _ _ _ _ i

set_option maxHeartbeats 8000000 in
set_option maxRecDepth 100000 in
theorem rfiat_any (c : CQ) (g : Int) (b off n cap : Nat) (A : Nat → Option Addr) (C : Nat → Nat) (bi oi N ci M : Nat) (f : Nat → Int) (w : World)
    (hg : c.log = g) (hn : c.layers.length = n) (hr : CRow w (some ⟨b, off, none⟩) c.layers A C) (hc : c.right) (hN : lenQ c 0 = N) (hM : lenQ c n = M) (hi : Row w bi oi N f) (vi : Nums f) :
    Calls Tryd.prog 20 #[.agg #[.int .i64 g, .slice (some ⟨b, off, none⟩) n cap], .slice (some ⟨bi, oi, none⟩) N ci] w fun e w' => rfiatOut c f n N M w e w' := by
  have n4 : n ≤ 4 := by have := hc.few; omega
  have n1 : 1 ≤ n := by have := List.length_pos_iff.2 hc.some; omega
  have hNr := lenQ_rng hc 0 (by omega)
  have hMr := lenQ_rng hc n (by omega)
  rw [hN] at hNr
  rw [hM] at hMr
  have q1 : 1 ≤ needQ c := by have h := at_fits (c := c) (j := 0) (List.length_pos_iff.2 hc.some); omega
  have q40 : needQ c ≤ 40 := needQ_le hc
  have HVL := hid (fun W (h : Below w.heap.size w W) => (by have := rvals_any c g b off n cap A C bi oi N ci f hn hc hN vi n (Nat.le_refl _) ((n : Int) - 1) W rfl (hr.kept h) (hi.kept h (hi.lt (by omega))); rw [hM] at this; exact this : Calls Tryd.prog 19 #[.agg #[.int .i64 g, .slice (some ⟨b, off, none⟩) n cap], .slice (some ⟨bi, oi, none⟩) N ci, .int .i64 ((n : Int) - 1)] W fun e w' => ∃ v, e = .returned v ∧ Own w' W.heap.size v M (valsQ c f n) ∧ Below W.heap.size W w'))
  have HNE := hid (fun W (h : Below w.heap.size w W) => rneed_any c g b off n cap A C W hg hn (hr.kept h) hc)
  obtain ⟨Q, hQ⟩ : ∃ Q, needQ c = Q := ⟨_, rfl⟩
  rw [hQ] at HNE q1 q40
  have HQ := hid hQ
  have HPF := hid (fun (dk : Nat) (Dc : Nat → Int) W (h : Below w.heap.size w W) (hd : Row W dk 0 Q Dc) (vd : Nums Dc) => rproof_any c g b off n cap A C bi oi N ci f dk 0 Q Q Dc W hg hn (hr.kept h) hc hN (hi.kept h (hi.lt (by omega))) vi hd vd hQ.symm (Nat.le_refl _) (by unfold maxLen; omega))
  have HDR := hid (fun (ao ap : Option Addr) (co cp : Nat) (Dc : Nat → Int) (m : PM) W (h : Below w.heap.size w W) (ho : PRow W ao M (valsQ c f n)) (hp : PfRow W ap (rightP c f Dc) m) => rdrawn_any c g b off n cap A C (some ⟨bi, oi, none⟩) ao N ci M co f (valsQ c f n) ap n cp (rightP c f Dc) m W hg hn (hr.kept h) hc hn hp (rightP_nums _ _ _) (rightP_shaped _ _ _) (PRow.of (hi.kept h (hi.lt (by omega)))) vi (by omega) ho (Nums_vals c f n) (by omega))
  have HDN : Hid (∀ Dc i, i < Q → (∀ k, k < i → Dc k = endD c N M f k) → fiatD c N M f (valsQ c f n) (rightP c f Dc) i = endD c N M f i) := hid (fun Dc i hi h => by rw [← hn]; exact draw_right c N M f Dc i (by omega) h)
  have HFS : Hid (∀ Dc, (∀ k, k < Q → Dc k = endD c N M f k) → ∀ W ao m, PfRow W ao (rightP c f Dc) m → PfRow W ao (fiatP c N M f) m) := hid (fun Dc h W ao m hp => by
    have hs := fiat_same c N M f Dc (by rw [hQ]; exact h)
    unfold fiatP lastP at hs ⊢
    exact hp.sameT hs)
  have HND := hid (endD_u64 c N M f)
  have HNN := hid hn
  have HS0 := hid (StV.start w g (.slice (some ⟨b, off, none⟩) n cap) 24 33)
  generalize endD c N M f = E at HDN HFS HND
  clear hg hn hr hc hN hM hi vi hQ
  go_enter Tryd.func20, Tryd.ntmps20
  obtain ⟨z0, z1, zl⟩ := HS0.out.st.box
  go_wp2_with fail
  clear z0 z1 zl
  obtain ⟨X, hX⟩ : ∃ X, w.heap.size = X := ⟨_, rfl⟩
  rw [hX] at HS0
  rw [hX]
  have HX := hid hX
  clear hX
  generalize (w.alloc (.cells #[.int .i64 g, .slice (some ⟨b, off, none⟩) n cap] 24)).alloc (.cells #[.slice none 0 0] 33) = W0 at HS0 ⊢
  refine (HVL.out _ HS0.out.st.bel).mono ?_
  rintro e w1 ⟨vO, rfl, hoO, hb⟩
  have HS1 := hid (HS0.out.next hb)
  obtain ⟨bO, cO, rfl, hcO, hrO, _, _⟩ := own_some hoO (by omega)
  have HRO := hid hrO
  clear hb HS0 HVL hoO hrO
  obtain ⟨z0, z1, zl⟩ := HS1.out.st.box
  go_wp2_with fail
  refine (HNE.out _ HS1.out.st.bel).mono ?_
  rintro e w2 ⟨rfl, hb⟩
  have HS2 := hid (HS1.out.next hb)
  replace HRO := hid (HRO.out.kept hb (HRO.out.lt (by omega)))
  clear hb HS1 HNE z0 z1 zl
  have hmk := run_make_row' (P := Tryd.prog) 25 45 (.int .u64 0) 8 Tryd.underlying25 Tryd.infoO rfl .i64 .i64 Q (by omega) (by omega)
  have HM3 := hid (Made.start w2 Q 45)
  have HS3 := hid (HS2.out.next HM3.out.below)
  obtain ⟨z0, z1, zl⟩ := HS3.out.st.box
  go_wp2_with fail
  obtain ⟨W3, hW3⟩ : ∃ W3, w2.alloc (.cells (madeCells #[.int .u64 0] Q) 45) = W3 := ⟨_, rfl⟩
  obtain ⟨dk, hdk⟩ : ∃ dk, w2.heap.size = dk := ⟨_, rfl⟩
  rw [hW3] at HM3 HS3
  rw [hW3, hdk]
  have HDK := hid hdk
  clear hW3 hdk z0 z1 zl hmk
  refine (HPF.out dk (fun _ => 0) W3 HS3.out.st.bel (by rw [← HDK.out]; exact HM3.out.row) (fun _ => by dsimp only; omega)).mono ?_
  rintro e w4 ⟨aP, cP, m, rfl, hpf, hfr, hb⟩
  have HM4 := hid (HM3.out.kept1 (by omega) hb)
  have b5 := nbel w4 (.cells #[.slice aP n cP] 33)
  have HF5 : Hid (FiS w2 (w4.alloc (.cells #[.slice aP n cP] 33)) w4.heap.size Q n c f (fun _ => 0) aP cP m) := hid ⟨HM4.out.kept1 (by omega) b5, HM4.out.row.lt (by omega), by rw [World.cell?_alloc_new]; rfl, World.frozen?_alloc_new _ _ _ _, hpf.kept b5, ⟨fun x hx => Nat.le_trans HM3.out.below.size (hfr.1 x hx), fun j hj => (hfr.2 j hj).mono fun q hq => Nat.le_trans HM3.out.below.size hq⟩⟩
  clear hpf hfr hb b5 HM4 HM3 HS3
  go_wp2_with fail
  obtain ⟨W5, hW5⟩ : ∃ W5, w4.alloc (.cells #[.slice aP n cP] 33) = W5 := ⟨_, rfl⟩
  obtain ⟨Y, hY⟩ : ∃ Y, w4.heap.size = Y := ⟨_, rfl⟩
  rw [hW5, hY] at HF5
  rw [hW5, hY]
  clear hW5 hY
  go_loopg [8] Q (fun q y wr => ∃ (i : Nat) (Dc : Nat → Int) (aP : Option Addr) (cP : Nat) (m : PM), i ≤ Q ∧ q = Q - i ∧ y = .int .i64 (i : Int) ∧ Hid (FiS w2 wr Y Q n c f Dc aP cP m) ∧ Hid (Nums Dc) ∧ Hid (∀ k, k < i → Dc k = E k))
  case atStart => exact ⟨0, _, _, _, _, by omega, rfl, rfl, HF5, hid (fun _ => by dsimp only; omega), hid (fun k hk => absurd hk (by omega))⟩
  case round =>
    clear HF5
    obtain ⟨i, Dc, aP, cP, m, hiQ, rfl, rfl, HF, HND2, HAG⟩ := hrel
    have HSW := hid (HS2.out.next HF.out.md.below)
    obtain ⟨z0, z1, zl⟩ := HSW.out.st.box
    have c7 := HF.out.c7
    by_cases hil : i < Q
    · have il : (i : Int) < (Q : Int) := by omega
      go_wp2_with fail
      refine (HDR.out (some ⟨bO, 0, none⟩) aP cO cP Dc m wr HSW.out.st.bel (PRow.of (HRO.out.kept HF.out.md.below (HRO.out.lt (by omega)))) HF.out.pf).mono ?_
      rintro e w3 ⟨vd, rfl, hod, hb⟩
      rw [HQ.out] at hod
      obtain ⟨bv, cv, rfl, hcv, hrv, _, _⟩ := own_some hod (by omega)
      have HF3 := hid (HF.out.next (by omega) hb)
      have HSW3 := hid (HSW.out.next hb)
      have cv1 := hrv i hil
      rw [Nat.zero_add, HDN.out Dc i hil HAG.out] at cv1
      have cd1 := HF3.out.md.row i hil
      rw [Nat.zero_add, HDK.out] at cd1
      have fd1 := HF3.out.md.free i hil
      rw [Nat.zero_add, HDK.out] at fd1
      have hEi := HND.out i
      obtain ⟨ei, hei⟩ : ∃ x, E i = x := ⟨_, rfl⟩
      obtain ⟨di, hdi⟩ : ∃ x, Dc i = x := ⟨_, rfl⟩
      rw [hei] at cv1 hEi
      rw [hdi] at cd1
      have HEI := hid hei
      have HDI := hid hdi
      have i0 : (0 : Int) ≤ (i : Int) := by omega
      clear hb hod hrv z0 z1 zl c7 hei hdi HF HSW
      by_cases heq : ei = di
      · have e1 : (ei != di) = false := by simp [heq]
        have HEQ := hid heq
        clear heq
        go_wp2_with fail
        go_quiet (fail)
        have HF4 := hid (HF3.out.next (by omega) (⟨rfl, rfl, rfl, Nat.le_refl _, fun _ _ => rfl⟩ : Below w3.heap.size w3 (w3.drewN nq)))
        generalize w3.drewN nq = W6 at HF4 ⊢
        go_wp2_with fail
        go_roundg (Q - (i + 1))
        case measure => go_light; omega
        case rel => exact ⟨i + 1, Dc, aP, cP, m, by omega, rfl, by go_num, HF4, HND2, hid (fun k hk => by
          rcases (show k < i ∨ k = i by omega) with h | h
          · exact HAG.out k h
          · subst h; rw [HDI.out, HEI.out, HEQ.out])⟩
      · have e1 : (ei != di) = true := by simp [heq]
        clear heq
        go_wp2_with fail
        go_quiet (fail)
        have hbq : Below w3.heap.size w3 (w3.drewN nq) := ⟨rfl, rfl, rfl, Nat.le_refl _, fun _ _ => rfl⟩
        have HF4 := hid (HF3.out.next (by omega) hbq)
        have HSW4 := hid (HSW3.out.next hbq)
        replace cv1 := nkeep hbq cv1
        replace cd1 := nkeep hbq cd1
        replace fd1 : (w3.drewN nq).frozen? ⟨dk, i, none⟩ = false := fd1
        generalize w3.drewN nq = W6 at HF4 HSW4 cv1 cd1 fd1 ⊢
        clear hbq HF3 HSW3
        have HMD := hid (HF4.out.md.store i ei hil)
        have HST7 := hid (HS2.out.next HMD.out.below)
        obtain ⟨z0, z1, zl⟩ := HST7.out.st.box
        rw [HDK.out] at z0 z1 zl
        go_wp2_with fail
        have HBL : Hid (Below w.heap.size w (W6.setCell ⟨dk, i, none⟩ (.int .u64 ei))) := hid (by rw [← HDK.out]; exact HST7.out.st.bel)
        have HRW : Hid (Row (W6.setCell ⟨dk, i, none⟩ (.int .u64 ei)) dk 0 Q (fun k => if k = i then ei else Dc k)) := hid (by rw [← HDK.out]; exact HMD.out.row)
        have HN2 : Hid (Nums (fun k => if k = i then ei else Dc k)) := hid (fun k => by
          dsimp only
          by_cases h : k = i
          · rw [if_pos h]; exact hEi
          · rw [if_neg h]; exact HND2.out k)
        clear z0 z1 zl cv1 cd1 fd1 HST7 HMD
        refine (HPF.out dk (fun k => if k = i then ei else Dc k) _ HBL.out HRW.out HN2.out).mono ?_
        rintro e w7 ⟨aP', cP', m', rfl, hpf, hfr, hb⟩
        have HP := hid (HF4.out.put (cP' := cP') (x := ei) (by omega) hil HNN.out hpf (by rw [HDK.out]; exact hfr) (by rw [HDK.out]; exact hb))
        obtain ⟨⟨p0, p1⟩, _⟩ := HP.out
        clear hpf hfr hb HBL HRW
        go_wp2_with fail
        go_roundg (Q - (i + 1))
        case measure => go_light; omega
        case rel => exact ⟨i + 1, _, aP', cP', m', by omega, rfl, by go_num, hid HP.out.2, HN2, hid (fun k hk => by
          by_cases h : k = i
          · rw [if_pos h, h, HEI.out]
          · rw [if_neg h]; exact HAG.out k (by omega))⟩
    · have e : Q = i := by omega
      subst e
      have pc := HSW.out.st.pc
      have fz := HSW.out.free
      have HPC := hid pc
      have hlX : X + 1 < w2.heap.size := HS2.out.lt
      have HPE : Hid (∀ u, PfRow (wr.setCell ⟨X + 1, 0, none⟩ u) aP (fiatP c N M f) m) := hid (fun u => HFS.out Dc HAG.out _ _ _ (HF.out.pf.keepS (S := fun q => w2.heap.size ≤ q) HF.out.fr.1 (fun j hj => HF.out.fr.2 j (by rw [← HNN.out]; exact hj)) (fun q hq => Below.heap_setCell _ _ _ _ (by show q ≠ X + 1; omega))))
      have HFE : Hid ((∀ a, aP = some a → w.heap.size ≤ a.block) ∧ ∀ j, j < n → PartA (fun q => w.heap.size ≤ q) (fiatP c N M f) m j) := hid ⟨fun x hx => Nat.le_trans HS2.out.st.bel.size (HF.out.fr.1 x hx), fun j hj => ((HF.out.fr.2 j hj).fiat N M).mono fun q hq => Nat.le_trans HS2.out.st.bel.size hq⟩
      have HBE : Hid (∀ u, Below w.heap.size w (wr.setCell ⟨X + 1, 0, none⟩ u)) := hid (fun u => HSW.out.st.bel.setCell (by have := HX.out; show w.heap.size ≤ X + 1; omega) u)
      clear z0 z1 zl hlX
      go_wp2_with fail
      refine bodyPost_ret (results_prf1 rfl rfl (World.cell?_setCell_same _ _ _ HPC.out)) rfl ?_
      exact ⟨aP, cP, m, rfl, HPE.out _, HFE.out, HBE.out _⟩

end Go.Proofs.YtmjpcmeinlkfbaaDoor

/-
  A contract of slices.Equal at numbers of 64 bits, where both lists have the same numbers; nothing is written.
-/
namespace Go.Proofs.YtmjpcmeinlkfbaaDoor
open Go.RowKit
set_option linter.unusedVariables false
attribute [local go_sem ↓] Go.wp_at_zero Go.wp_at_succ

set_option maxHeartbeats 2000000 in
set_option maxRecDepth 100000 in
theorem equal_ok (a0 a1 : Option Addr) (n c0 c1 : Nat) (f g : Nat → Int) (w : World) (hn : n ≤ 100000) (p0 : PRow w a0 n f) (p1 : PRow w a1 n g) (e : ∀ j, j < n → f j = g j) :
    Calls Tryd.prog 16 #[.slice a0 n c0, .slice a1 n c1] w fun e w' => e = .returned (.bool true) ∧ Below w.heap.size w w' := by
  have H0 := hid p0
  have H1 := hid (p1.congr fun j hj => (e j hj).symm)
  clear p0 p1 e
  go_enter Tryd.func16, Tryd.ntmps16
  go_wp2_with fail
  go_loopg [13] n (fun q i wr => ∃ k : Nat, k ≤ n ∧ q = n - k ∧ i = .int .i64 (k : Int) ∧ Hid (PRow wr a0 n f) ∧ Hid (PRow wr a1 n f) ∧ Hid (Below w.heap.size w wr))
  case atStart => exact ⟨0, by omega, rfl, rfl, H0, H1, hid (Below.refl _ _)⟩
  case round =>
    clear H0 H1
    obtain ⟨k, hk, rfl, rfl, H0, H1, HB⟩ := hrel
    by_cases hlt : k < n
    · obtain ⟨b1, o1, rfl, r1⟩ := H0.out (by omega)
      obtain ⟨b2, o2, rfl, r2⟩ := H1.out (by omega)
      have c1 := r1 k hlt
      have c2 := r2 k hlt
      clear r1 r2
      obtain ⟨a, ha⟩ : ∃ a, f k = a := ⟨_, rfl⟩
      rw [ha] at c1 c2
      clear ha
      have k0 : (0 : Int) ≤ (k : Int) := by omega
      have k1 : (k : Int) < (n : Int) := by omega
      go_wp2_with fail
      go_region_with (first | fail)
      all_goals (go_wp2_with fail)
      all_goals (go_roundg (n - (k + 1)))
      all_goals first | (go_light; omega) | (exact ⟨k + 1, by omega, rfl, by go_num, hid H0.out.drew, hid H1.out.drew, hid HB.out.drew⟩)
    · have e : k = n := by omega
      subst e
      go_wp2_with fail
      go_ret
      exact ⟨rfl, HB.out⟩

end Go.Proofs.YtmjpcmeinlkfbaaDoor

/-
  A contract of tallyref's SameProof, of two proofs that tell the same; nothing that was there is written.
-/
namespace Go.Proofs.YtmjpcmeinlkfbaaDoor
open Go.RowKit
set_option linter.unusedVariables false
attribute [local go_sem ↓] Go.wp_at_zero Go.wp_at_succ

set_option maxHeartbeats 1000000 in
theorem sp11_ok (a0 a1 : Option Addr) (n c0 c1 : Nat) (f : Nat → Int) (w : World) (hn : n ≤ 100000) (p0 : PRow w a0 n f) (p1 : PRow w a1 n f) :
    Calls Tryd.prog 46 #[.slice a0 n c0, .slice a1 n c1] w fun e w' => e = .returned (.bool true) ∧ Below w.heap.size w w' := by
  have HE := hid (equal_ok a0 a1 n c0 c1 f f w hn p0 p1 (fun _ _ => rfl))
  clear p0 p1
  go_enter Tryd.func46, Tryd.ntmps46
  go_wp2_with (go_at_call 16; refine (HE.out).mono ?_; rintro e w1 ⟨rfl, hb⟩; have HB := hid hb; clear hb)
  go_ret
  exact ⟨rfl, HB.out⟩
set_option maxHeartbeats 4000000 in
set_option maxRecDepth 100000 in
theorem spf_ok (a0 a1 : Option Addr) (m c0 c1 : Nat) (A A2 : Nat → Option Addr) (L C C2 : Nat → Nat) (F : Nat → Nat → Int) (w : World) (hm : m ≤ 1000) (h0 : LRow w a0 m A L C F) (h1 : LRow w a1 m A2 L C2 F) (hL : ∀ i, i < m → L i ≤ 100000) :
    Calls Tryd.prog 45 #[.slice a0 m c0, .slice a1 m c1, .func (.func 46) #[] #[]] w fun e w' => e = .returned (.bool true) ∧ Below w.heap.size w w' := by
  have H0 := hid h0
  have H1 := hid h1
  have HL := hid hL
  clear h0 h1 hL
  go_enter Tryd.func45, Tryd.ntmps45
  go_wp2_with fail
  go_loopg [17] m (fun q i wr => ∃ k : Nat, k ≤ m ∧ q = m - k ∧ i = .int .i64 (k : Int) ∧ Hid (LRow wr a0 m A L C F) ∧ Hid (LRow wr a1 m A2 L C2 F) ∧ Hid (Below w.heap.size w wr))
  case atStart => exact ⟨0, by omega, rfl, rfl, H0, H1, hid (Below.refl _ _)⟩
  case round =>
    clear H0 H1
    obtain ⟨k, hk, rfl, rfl, H0, H1, HB⟩ := hrel
    by_cases hlt : k < m
    · obtain ⟨b1, o1, rfl, r1⟩ := H0.out (by omega)
      obtain ⟨b2, o2, rfl, r2⟩ := H1.out (by omega)
      have c1 := (r1 k hlt).1
      have c2 := (r2 k hlt).1
      have HS := hid (sp11_ok (A k) (A2 k) (L k) (C k) (C2 k) (F k) wr (HL.out k hlt) (r1 k hlt).2 (r2 k hlt).2)
      clear r1 r2
      have k0 : (0 : Int) ≤ (k : Int) := by omega
      have k1 : (k : Int) < (m : Int) := by omega
      go_wp2_with (go_at_call 46; refine (HS.out).mono ?_; rintro e w1 ⟨rfl, hb⟩; have HB1 := hid hb; clear hb)
      go_roundg (m - (k + 1))
      case measure => go_light; omega
      case rel => exact ⟨k + 1, by omega, rfl, by go_num, hid (H0.out.kept HB1.out), hid (H1.out.kept HB1.out), hid (HB.out.trans (HB1.out.mono HB.out.size))⟩
    · have e : k = m := by omega
      subst e
      go_wp2_with fail
      go_ret
      exact ⟨rfl, HB.out⟩
/-- Two boxes. -/
theorem two_boxes (w : World) (u v x y : Value) (t t' : TypeId) : Below w.heap.size w ((w.alloc (.cells #[u, v] t)).alloc (.cells #[x, y] t')) ∧ Box2 ((w.alloc (.cells #[u, v] t)).alloc (.cells #[x, y] t')) w.heap.size u v ∧ Box2 ((w.alloc (.cells #[u, v] t)).alloc (.cells #[x, y] t')) (w.heap.size + 1) x y := by
  have h1 := Box2.new w u v t
  have e : (w.alloc (.cells #[u, v] t)).heap.size = w.heap.size + 1 := by simp
  have hb := (Below.refl w.heap.size w).alloc (Nat.le_refl _) (.cells #[u, v] t)
  generalize w.alloc (.cells #[u, v] t) = W1 at h1 e hb
  have hal := (Below.refl W1.heap.size W1).alloc (Nat.le_refl _) (.cells #[x, y] t')
  exact ⟨hb.trans (hal.mono hb.size), h1.kept hal, by rw [← e]; exact Box2.new W1 x y t'⟩
set_option maxHeartbeats 4000000 in
set_option maxRecDepth 100000 in
theorem sp1_ok (ra ra2 la la2 : Option Addr) (rn rc rc2 ln lc lc2 : Nat) (A A2 : Nat → Option Addr) (L C C2 : Nat → Nat) (F : Nat → Nat → Int) (f : Nat → Int) (w : World) (h1 : rn ≤ 1000) (h2 : ln ≤ 100000) (hL : ∀ i, i < rn → L i ≤ 100000) (r0 : LRow w ra rn A L C F) (r1 : LRow w ra2 rn A2 L C2 F) (p0 : PRow w la ln f) (p1 : PRow w la2 ln f) :
    Calls Tryd.prog 44 #[.agg #[.slice ra rn rc, .slice la ln lc], .agg #[.slice ra2 rn rc2, .slice la2 ln lc2]] w fun e w' => e = .returned (.bool true) ∧ Below w.heap.size w w' := by
  have HE := hid (fun W (h : Below w.heap.size w W) => equal_ok la la2 ln lc lc2 f f W h2 (p0.kept h) (p1.kept h) (fun _ _ => rfl))
  have HF := hid (fun W (h : Below w.heap.size w W) => spf_ok ra ra2 rn rc rc2 A A2 L C C2 F W h1 (r0.kept h) (r1.kept h) hL)
  obtain ⟨hb0, hx0, hx1⟩ := two_boxes w (.slice ra rn rc) (.slice la ln lc) (.slice ra2 rn rc2) (.slice la2 ln lc2) 79 79
  have HB0 := hid (And.intro hb0 (And.intro hx0 hx1))
  clear r0 r1 p0 p1 hL hb0
  obtain ⟨x0, x1, xl⟩ := hx0
  obtain ⟨y0, y1, yl⟩ := hx1
  go_enter Tryd.func44, Tryd.ntmps44
  go_wp2_with fail
  clear x0 x1 xl y0 y1 yl
  obtain ⟨X, hX⟩ : ∃ X, w.heap.size = X := ⟨_, rfl⟩
  have HBX : Hid (Below w.heap.size w ((w.alloc (.cells #[.slice ra rn rc, .slice la ln lc] 79)).alloc (.cells #[.slice ra2 rn rc2, .slice la2 ln lc2] 79)) ∧ Box2 ((w.alloc (.cells #[.slice ra rn rc, .slice la ln lc] 79)).alloc (.cells #[.slice ra2 rn rc2, .slice la2 ln lc2] 79)) X (.slice ra rn rc) (.slice la ln lc) ∧ Box2 ((w.alloc (.cells #[.slice ra rn rc, .slice la ln lc] 79)).alloc (.cells #[.slice ra2 rn rc2, .slice la2 ln lc2] 79)) (X + 1) (.slice ra2 rn rc2) (.slice la2 ln lc2)) := hid (by rw [← hX]; exact HB0.out)
  rw [hX]
  clear hX HB0
  generalize (w.alloc (.cells #[.slice ra rn rc, .slice la ln lc] 79)).alloc (.cells #[.slice ra2 rn rc2, .slice la2 ln lc2] 79) = W0 at HBX ⊢
  refine (HE.out _ HBX.out.1).mono ?_
  rintro e w1 ⟨rfl, hb⟩
  obtain ⟨x0, x1, xl⟩ := HBX.out.2.1.kept hb
  obtain ⟨y0, y1, yl⟩ := HBX.out.2.2.kept hb
  have HB1 := hid (HBX.out.1.trans (hb.mono HBX.out.1.size))
  clear hb
  go_wp2_with fail
  refine (HF.out _ HB1.out).mono ?_
  rintro e w2 ⟨rfl, hb⟩
  have HB2 := hid (HB1.out.trans (hb.mono HB1.out.size))
  clear hb
  go_wp2_with fail
  go_ret
  exact ⟨rfl, HB2.out⟩
set_option maxHeartbeats 4000000 in
set_option maxRecDepth 100000 in
theorem spp_ok (ap aq : Option Addr) (np cp cq : Nat) (p : PQ) (m m2 : PM) (w : World) (hp : p.n = np) (h1 : np ≤ 1000) (hb : ∀ j, j < np → p.rn j ≤ 1000 ∧ p.ln j ≤ 100000 ∧ ∀ i, i < p.rn j → p.rl j i ≤ 100000) (h0 : PfRow w ap p m) (h2 : PfRow w aq p m2) :
    Calls Tryd.prog 43 #[.slice ap np cp, .slice aq np cq, .func (.func 44) #[] #[]] w fun e w' => e = .returned (.bool true) ∧ Below w.heap.size w w' := by
  have H0 := hid h0
  have H2 := hid h2
  have HP := hid hp
  have HL := hid hb
  clear h0 h2 hp hb
  go_enter Tryd.func43, Tryd.ntmps43
  go_wp2_with fail
  go_loopg [17] np (fun q i wr => ∃ k : Nat, k ≤ np ∧ q = np - k ∧ i = .int .i64 (k : Int) ∧ Hid (Below w.heap.size w wr))
  case atStart => exact ⟨0, by omega, rfl, rfl, hid (Below.refl _ _)⟩
  case round =>
    obtain ⟨k, hk, rfl, rfl, HB⟩ := hrel
    by_cases hlt : k < np
    · obtain ⟨b1, o1, e1, r1⟩ := H0.out.kept HB.out (by rw [HP.out]; omega)
      obtain ⟨b2, o2, e2, r2⟩ := H2.out.kept HB.out (by rw [HP.out]; omega)
      subst e1
      subst e2
      obtain ⟨c0, c1, c2, c3⟩ := r1 k (by rw [HP.out]; exact hlt)
      obtain ⟨d0, d1, d2, d3⟩ := r2 k (by rw [HP.out]; exact hlt)
      rw [Nat.mul_comm 2 k] at c0 c1 d0 d1
      obtain ⟨l1, l2, l3⟩ := HL.out k hlt
      obtain ⟨rn, hrn⟩ : ∃ x, p.rn k = x := ⟨_, rfl⟩
      obtain ⟨ln, hln⟩ : ∃ x, p.ln k = x := ⟨_, rfl⟩
      obtain ⟨ra, hra⟩ : ∃ x, m.ra k = x := ⟨_, rfl⟩
      obtain ⟨rc, hrc⟩ : ∃ x, m.rc k = x := ⟨_, rfl⟩
      obtain ⟨la, hla⟩ : ∃ x, m.la k = x := ⟨_, rfl⟩
      obtain ⟨lc, hlc⟩ : ∃ x, m.lc k = x := ⟨_, rfl⟩
      obtain ⟨ra2, hra2⟩ : ∃ x, m2.ra k = x := ⟨_, rfl⟩
      obtain ⟨rc2, hrc2⟩ : ∃ x, m2.rc k = x := ⟨_, rfl⟩
      obtain ⟨la2, hla2⟩ : ∃ x, m2.la k = x := ⟨_, rfl⟩
      obtain ⟨lc2, hlc2⟩ : ∃ x, m2.lc k = x := ⟨_, rfl⟩
      rw [hra, hrn, hrc] at c0
      rw [hla, hln, hlc] at c1
      rw [hra2, hrn, hrc2] at d0
      rw [hla2, hln, hlc2] at d1
      rw [hra, hrn] at c2
      rw [hla, hln] at c3
      rw [hra2, hrn] at d2
      rw [hla2, hln] at d3
      rw [hrn] at l1 l3
      rw [hln] at l2
      have HS := hid (fun W (h : Below wr.heap.size wr W) => sp1_ok ra ra2 la la2 rn rc rc2 ln lc lc2 (m.A k) (m2.A k) (p.rl k) (m.C k) (m2.C k) (p.R k) (p.L k) W l1 l2 l3 (c2.kept h) (d2.kept h) (c3.kept h) (d3.kept h))
      clear r1 r2 c2 c3 d2 d3 l1 l2 l3 hrn hln hra hrc hla hlc hra2 hrc2 hla2 hlc2
      obtain ⟨hb0, hx0, hx1⟩ := two_boxes wr (.slice ra rn rc) (.slice la ln lc) (.slice ra2 rn rc2) (.slice la2 ln lc2) 79 79
      have HB0 := hid hb0
      have hal := (Below.refl wr.heap.size wr).alloc (Nat.le_refl _) (.cells #[.slice ra rn rc, .slice la ln lc] 79)
      have d0' := (hal.cell (World.block_lt_of_cell? wr _ d0)).trans d0
      have d1' := (hal.cell (World.block_lt_of_cell? wr _ d1)).trans d1
      clear hb0 hal
      obtain ⟨x0, x1, xl⟩ := hx0
      obtain ⟨y0, y1, yl⟩ := hx1
      have k0 : (0 : Int) ≤ (k : Int) := by omega
      have k1 : (k : Int) < (np : Int) := by omega
      go_wp2_with fail
      refine (HS.out _ HB0.out).mono ?_
      rintro e w1 ⟨rfl, hb⟩
      have HB1 := hid (HB.out.trans ((HB0.out.trans (hb.mono HB0.out.size)).mono HB.out.size))
      clear hb x0 x1 xl y0 y1 yl c0 c1 d0 d1 d0' d1'
      go_wp2_with fail
      go_roundg (np - (k + 1))
      case measure => go_light; omega
      case rel => exact ⟨k + 1, by omega, rfl, by go_num, HB1⟩
    · have e : k = np := by omega
      subst e
      have k1 : ¬ ((k : Int) < (k : Int)) := by omega
      go_wp2_with fail
      go_ret
      exact ⟨rfl, HB.out⟩
set_option maxHeartbeats 4000000 in
set_option maxRecDepth 100000 in
theorem sameproof_ok (ap aq : Option Addr) (np cp cq : Nat) (p : PQ) (m m2 : PM) (w : World) (hp : p.n = np) (h1 : np ≤ 1000) (hb : ∀ j, j < np → p.rn j ≤ 1000 ∧ p.ln j ≤ 100000 ∧ ∀ i, i < p.rn j → p.rl j i ≤ 100000) (h0 : PfRow w ap p m) (h2 : PfRow w aq p m2) :
    Calls Tryd.prog 13 #[.agg #[.slice ap np cp], .agg #[.slice aq np cq]] w fun e w' => e = .returned (.bool true) ∧ Below w.heap.size w w' := by
  have hb1 := ((Below.refl w.heap.size w).alloc (Nat.le_refl _) (.cells #[.slice ap np cp] 33)).alloc (by simp) (.cells #[.slice aq np cq] 33)
  have HE := hid (spp_ok ap aq np cp cq p m m2 _ hp h1 hb (h0.kept hb1) (h2.kept hb1))
  have x0 : ((w.alloc (.cells #[.slice ap np cp] 33)).alloc (.cells #[.slice aq np cq] 33)).cell? ⟨w.heap.size, 0, none⟩ = some (.slice ap np cp) := by rw [World.cell?_alloc_old _ _ _ (by simp), World.cell?_alloc_new]; rfl
  have x1 : ((w.alloc (.cells #[.slice ap np cp] 33)).alloc (.cells #[.slice aq np cq] 33)).cell? ⟨w.heap.size + 1, 0, none⟩ = some (.slice aq np cq) := by
    have e : (w.alloc (.cells #[.slice ap np cp] 33)).heap.size = w.heap.size + 1 := by simp
    rw [← e, World.cell?_alloc_new]; rfl
  have HB1 := hid hb1
  clear hb h0 h2 hp hb1
  go_enter Tryd.func13, Tryd.ntmps13
  go_wp2_with fail
  refine (HE.out).mono ?_
  rintro e w1 ⟨rfl, hb⟩
  have HB2 := hid (HB1.out.trans (hb.mono HB1.out.size))
  clear hb x0 x1
  go_wp2_with fail
  go_ret
  exact ⟨rfl, HB2.out⟩

end Go.Proofs.YtmjpcmeinlkfbaaDoor

/-
  A contract of the law GkrProves, for every circuit and all lists: it answers true and writes nothing that was there.
-/
namespace Go.Proofs.YtmjpcmeinlkfbaaDoor
open Go.RowKit
set_option linter.unusedVariables false
attribute [local go_sem ↓] Go.wp_at_zero Go.wp_at_succ

/-- No parts. -/
def noneP : PQ := ⟨0, fun _ => 0, fun _ => 0, fun _ _ => 0, fun _ _ _ => 0, fun _ _ => 0⟩
def noneM : PM := ⟨fun _ => none, fun _ => none, fun _ => 0, fun _ => 0, fun _ _ => none, fun _ _ => 0⟩
theorem same_none (w : World) : Calls Tryd.prog 13 #[.agg #[.slice none 0 0], .agg #[.slice none 0 0]] w fun e w' => e = .returned (.bool true) ∧ Below w.heap.size w w' :=
  sameproof_ok none none 0 0 0 noneP noneM noneM w rfl (by omega) (fun j hj => absurd hj (by omega)) (fun h => absurd h (by show ¬ (0 < 0); omega)) (fun h => absurd h (by show ¬ (0 < 0); omega))
theorem right_sizes {c : CQ} (hc : c.right) (f D : Nat → Int) : ∀ j, j < (rightP c f D).n → (rightP c f D).rn j ≤ 1000 ∧ (rightP c f D).ln j ≤ 100000 ∧ ∀ i, i < (rightP c f D).rn j → (rightP c f D).rl j i ≤ 100000 := fun j _ => by
  have h := parts_lg hc (j + 1)
  refine ⟨?_, ?_, fun i _ => ?_⟩
  · show 2 * (partsQ c).lg (j + 1) ≤ 1000; omega
  · show (partsQ c).lg (j + 1) + 1 ≤ 100000; omega
  · show 3 ≤ 100000; omega
/-- A box of one cell. -/
theorem box_one (w : World) (v : Value) (t : TypeId) : (w.alloc (.cells #[v] t)).cell? ⟨w.heap.size, 0, none⟩ = some v := by rw [World.cell?_alloc_new]; rfl

set_option maxHeartbeats 8000000 in
set_option maxRecDepth 100000 in
theorem gproves_any (c : CQ) (g : Int) (ao : Option Addr) (n cap : Nat) (A : Nat → Option Addr) (C : Nat → Nat) (ai ad : Option Addr) (ni ci nd cd : Nat) (fi fd : Nat → Int) (w : World) (ht : Tab w) (hn63 : n ≤ maxLen) (hg : c.log = g) (hn : c.layers.length = n) (hr : CRow w ao c.layers A C) (hi : PRow w ai ni fi) (vi : Nums fi) (hd : PRow w ad nd fd) (vd : Nums fd) (hcd : nd ≤ cd) (hcm : cd ≤ maxLen) (n63 : ni ≤ maxLen) :
    Calls Tryd.prog 3 #[.agg #[.int .i64 g, .slice ao n cap], .slice ai ni ci, .slice ad nd cd] w fun e w' => e = .returned (.bool true) ∧ Below w.heap.size w w' := by
  have HS0 := hid (StW.start w g (.slice ao n cap) 24)
  have HCI := hid (fun W (h : Below w.heap.size w W) => rcirc_any c g ao n cap A C W hg hn (hr.kept h))
  have HSM := hid (fun W (h : Below w.heap.size w W) => small_law c g ao n cap A C W hn63 hg hn (hr.kept h))
  have HR := hid hr
  have HG := hid hg
  have HN := hid hn
  have HT := hid (fun W (h : Below w.heap.size w W) => ht.kept h ht.1)
  have HI := hid (And.intro hi vi)
  have HD := hid (And.intro hd vd)
  have HCD := hid (And.intro hcd hcm)
  have n63' : (ni : Int) ≤ 9223372036854775807 := by have : maxLen ≤ 9223372036854775807 := by decide
                                                     omega
  have d63' : (nd : Int) ≤ 9223372036854775807 := by have : maxLen ≤ 9223372036854775807 := by decide
                                                     omega
  clear hr hg hn ht hi vi hd vd hcd hcm n63 hn63
  obtain ⟨z0, z1, zl⟩ := HS0.out.box
  go_enter Tryd.func3, Tryd.ntmps3
  go_wp2_with fail
  obtain ⟨X, hX⟩ : ∃ X, w.heap.size = X := ⟨_, rfl⟩
  rw [hX] at HS0
  rw [hX]
  clear hX z0 z1 zl
  generalize w.alloc (.cells #[.int .i64 g, .slice ao n cap] 24) = W0 at HS0 ⊢
  refine (HCI.out _ HS0.out.bel).mono ?_
  rintro e w1 ⟨y, rfl, hy, hb⟩
  have HS1 := hid (HS0.out.next hb)
  have HYE := hid hy
  clear hb hy HS0 HCI
  obtain ⟨z0, z1, zl⟩ := HS1.out.box
  by_cases hy0 : y = 0
  · subst hy0
    have HC := hid (checkE_zero.1 HYE.out)
    obtain ⟨b, off, rfl⟩ := right_addr HC.out HR.out
    obtain ⟨gn, N, rfl, gn4, sh, hN, N1, N16, hNk⟩ := right_nums HG.out HN.out HC.out
    have HNL := hid hN
    have HSH := hid sh
    have q1 : 1 ≤ needQ c := by have h := at_fits (c := c) (j := 0) (List.length_pos_iff.2 HC.out.some); omega
    have q40 : needQ c ≤ 40 := needQ_le HC.out
    have HDR := hid (fun W (h : Below w.heap.size w W) => draws_ok c (gn : Int) b off n cap A C W HG.out HN.out (HR.out.kept h) HC.out)
    have HNE := hid (fun W (h : Below w.heap.size w W) => rneed_any c (gn : Int) b off n cap A C W HG.out HN.out (HR.out.kept h) HC.out)
    obtain ⟨Q, hQ⟩ : ∃ Q, needQ c = Q := ⟨_, rfl⟩
    rw [hQ] at HDR HNE q1 q40
    have HQ := hid hQ
    have gn0 : (0 : Int) ≤ (gn : Int) := by omega
    clear hN hNk hQ sh HYE
    go_wp2_with fail
    refine (HSM.out _ HS1.out.bel).mono ?_
    rintro e w2 ⟨r, rfl, hb⟩
    replace HS1 := hid (HS1.out.next hb)
    clear hb z0 z1 zl HSM
    obtain ⟨z0, z1, zl⟩ := HS1.out.box
    cases r with
    | false =>
      go_wp2_with fail
      go_ret
      exact ⟨rfl, HS1.out.bel⟩
    | true =>
      go_wp2_with fail
      refine (HDR.out _ HS1.out.bel).mono ?_
      rintro e w3 ⟨rfl, hb⟩
      replace HS1 := hid (HS1.out.next hb)
      clear hb z0 z1 zl
      obtain ⟨z0, z1, zl⟩ := HS1.out.box
      go_wp2_with fail
      refine (HNE.out _ HS1.out.bel).mono ?_
      rintro e w4 ⟨rfl, hb⟩
      replace HS1 := hid (HS1.out.next hb)
      clear hb z0 z1 zl HDR HNE
      obtain ⟨z0, z1, zl⟩ := HS1.out.box
      have HV := hid (box_one w4 (.slice none 0 0) 33)
      have HFV := hid (World.frozen?_alloc_new w4 #[.slice none 0 0] 33 0)
      have HS5 := hid (HS1.out.next (nbel w4 (.cells #[.slice none 0 0] 33)))
      obtain ⟨y0, y1, yl⟩ := HS5.out.box
      have sh := HSH.out
      by_cases hi : ni = N
      · subst hi
        have k1 : ((ni : Int) != (ni : Int)) = false := by simp
        obtain ⟨bi, oi, rfl, hri⟩ := HI.out.1 (by omega)
        have HRI := hid hri
        have HRU : Hid (∀ W, Below w.heap.size w W → Calls Tryd.prog 33 #[.agg #[.int .i64 (gn : Int), .slice (some ⟨b, off, none⟩) n cap], .slice (some ⟨bi, oi, none⟩) ni ci] W fun e w' => ∃ vv, e = .returned (.tuple #[vv, .int .i64 0]) ∧ Below W.heap.size W w') := hid (fun W h => (run_ok c gn b off n cap A C bi oi ni ci fi W HG.out HN.out (HR.out.kept h) HC.out HSH.out HNL.out N16 N1 (HRI.out.kept h (HRI.out.lt (by omega))) HI.out.2).mono (by
          rintro e w' ⟨V, D, he, ho⟩
          exact ⟨_, he, ho.below⟩))
        clear hri
        by_cases hdq : nd = Q
        · subst hdq
          have k2 : ((nd : Int) != (nd : Int)) = false := by simp
          obtain ⟨bd, od, rfl, hrd⟩ := HD.out.1 (by omega)
          have HRD := hid hrd
          clear hrd HRU
          have HPF := hid (fun W (h : Below w.heap.size w W) => rproof_any c (gn : Int) b off n cap A C bi oi ni ci fi bd od nd cd fd W HG.out HN.out (HR.out.kept h) HC.out HNL.out (HRI.out.kept h (HRI.out.lt (by omega))) HI.out.2 (HRD.out.kept h (HRD.out.lt (by omega))) HD.out.2 HQ.out.symm HCD.out.1 HCD.out.2)
          have HPV := hid (fun W (h : Below w.heap.size w W) => pv_ok c gn b off n cap A C bi oi ni ci fi bd od nd cd fd W HG.out HN.out (HR.out.kept h) HC.out HSH.out HNL.out (HRI.out.kept h (HRI.out.lt (by omega))) HI.out.2 (HRD.out.kept h (HRD.out.lt (by omega))) HD.out.2 HQ.out.symm HCD.out.1 HCD.out.2 (HT.out W h))
          obtain ⟨V, hV⟩ : ∃ V, w4.heap.size = V := ⟨_, rfl⟩
          obtain ⟨W5, hW5⟩ : ∃ W5, w4.alloc (.cells #[.slice none 0 0] 33) = W5 := ⟨_, rfl⟩
          rw [hW5] at HS5 HV HFV y0 y1 yl
          rw [hV] at HV HFV
          have HVL : Hid (w.heap.size ≤ V) := hid (by rw [← hV]; exact HS1.out.bel.size)
          have HXV : Hid (X ≠ V) := hid (by rw [← hV]; have := HS1.out.box.lt; omega)
          go_wp2_with fail
          clear hW5 hV
          refine (HPF.out _ HS5.out.bel).mono ?_
          rintro e w6 ⟨aP, cP, mP, rfl, hpf, hfr, hb⟩
          have HS6 := hid (HS5.out.next hb)
          have v6 := nkeep hb HV.out
          have f6 : w6.frozen? ⟨V, 0, none⟩ = false := (hb.frozen (World.block_lt_of_cell? W5 _ HV.out)).trans HFV.out
          have hVl : V < W5.heap.size := World.block_lt_of_cell? W5 _ HV.out
          have HP7 : Hid (PfRow (w6.setCell ⟨V, 0, none⟩ (.slice aP n cP)) aP (rightP c fi fd) mP) := hid (hpf.keepS (S := fun q => W5.heap.size ≤ q) hfr.1 (fun j hj => hfr.2 j (by rw [← HN.out]; exact hj)) (fun q hq => Below.heap_setCell _ _ _ _ (by show q ≠ V; omega)))
          have HV7 := hid (World.cell?_setCell_same w6 ⟨V, 0, none⟩ (.slice aP n cP) v6)
          have HS7 : Hid (StW w (w6.setCell ⟨V, 0, none⟩ (.slice aP n cP)) X (gn : Int) (.slice (some ⟨b, off, none⟩) n cap)) := hid ⟨HS6.out.bel.setCell HVL.out _, ⟨(World.cell?_setCell_other _ _ _ _ (by intro e; simp only [Addr.mk.injEq] at e; exact HXV.out e.1.symm)).trans HS6.out.box.c0, (World.cell?_setCell_other _ _ _ _ (by intro e; simp only [Addr.mk.injEq] at e; exact HXV.out e.1.symm)).trans HS6.out.box.c1, by rw [World.size_setCell]; exact HS6.out.box.lt⟩⟩
          clear hb y0 y1 yl HPF hpf hfr HS6 hVl
          obtain ⟨y0, y1, yl⟩ := HS7.out.box
          obtain ⟨W7, hW7⟩ : ∃ W7, w6.setCell ⟨V, 0, none⟩ (.slice aP n cP) = W7 := ⟨_, rfl⟩
          rw [hW7] at HS7 HP7 HV7 y0 y1 yl
          go_wp2_with fail
          clear hW7 v6 f6
          refine (HPV.out _ HS7.out.bel).mono ?_
          rintro e w8 ⟨PB, m8, rfl, hp8, _, hb⟩
          have HS8 := hid (HS7.out.next hb)
          have HP8 := hid hp8
          replace HP7 := hid (HP7.out.kept hb)
          replace HV7 := hid (nkeep hb HV7.out)
          clear hb hp8 y0 y1 yl HPV
          have b9 := nbel w8 (.cells #[.slice (some ⟨PB, 0, none⟩) n n] 33)
          have v9 := nkeep b9 HV7.out
          have u9 := box_one w8 (.slice (some ⟨PB, 0, none⟩) n n) 33
          have HS9 := hid (HS8.out.next b9)
          have HSP := hid (sameproof_ok (some ⟨PB, 0, none⟩) aP n n cP (rightP c fi fd) m8 mP _ HN.out (by have := HC.out.few; have := HN.out; omega) (fun j hj => right_sizes HC.out fi fd j (by show j < c.layers.length; rw [HN.out]; exact hj)) (HP8.out.kept b9) (HP7.out.kept b9))
          clear b9
          go_wp2_with fail
          refine (HSP.out).mono ?_
          rintro e w10 ⟨rfl, hb⟩
          have HS10 := hid (HS9.out.next hb)
          clear hb v9 u9
          go_wp2_with fail
          go_ret
          exact ⟨rfl, HS10.out.bel⟩
        · have k2 : ((nd : Int) != (Q : Int)) = true := by simp; omega
          have HPV := hid (fun W (h : Below w.heap.size w W) => pv_draws (gn : Int) (some ⟨b, off, none⟩) n cap (some ⟨bi, oi, none⟩) ni ci ad nd cd Q W hdq (hid (fun W2 h2 => HRU.out W2 (h.trans (h2.mono h.size)))) (hid (fun W2 h2 => by rw [← HQ.out]; exact cdraws_any c (gn : Int) b off n cap A C W2 HG.out HN.out (HR.out.kept (h.trans (h2.mono h.size))) HC.out)))
          obtain ⟨V, hV⟩ : ∃ V, w4.heap.size = V := ⟨_, rfl⟩
          obtain ⟨W5, hW5⟩ : ∃ W5, w4.alloc (.cells #[.slice none 0 0] 33) = W5 := ⟨_, rfl⟩
          rw [hW5] at HS5 HV y0 y1 yl
          rw [hV] at HV
          go_wp2_with fail
          clear hW5 hV
          refine (HPV.out _ HS5.out.bel).mono ?_
          rintro e w6 ⟨rfl, hb⟩
          have HS6 := hid (HS5.out.next hb)
          have HV6 := hid (nkeep hb HV.out)
          clear hb y0 y1 yl HPV
          have b7 := nbel w6 (.cells #[.slice none 0 0] 33)
          have v7 := nkeep b7 HV6.out
          have u7 := box_one w6 (.slice none 0 0) 33
          have HS7 := hid (HS6.out.next b7)
          clear b7
          go_wp2_with fail
          refine (same_none _).mono ?_
          rintro e w8 ⟨rfl, hb⟩
          have HS8 := hid (HS7.out.next hb)
          clear hb v7 u7
          go_wp2_with fail
          go_ret
          exact ⟨rfl, HS8.out.bel⟩
      · have k1 : ((ni : Int) != (N : Int)) = true := by simp; omega
        have HPV := hid (fun W (h : Below w.heap.size w W) => pv_run (gn : Int) (some ⟨b, off, none⟩) n cap ai ni ci ad nd cd 4 W (by omega) (hid (fun W2 h2 => run_form c gn (some ⟨b, off, none⟩) n cap A C ai ni ci N W2 HG.out HN.out (HR.out.kept (h.trans (h2.mono h.size))) HC.out HSH.out hi)))
        obtain ⟨V, hV⟩ : ∃ V, w4.heap.size = V := ⟨_, rfl⟩
        obtain ⟨W5, hW5⟩ : ∃ W5, w4.alloc (.cells #[.slice none 0 0] 33) = W5 := ⟨_, rfl⟩
        rw [hW5] at HS5 HV y0 y1 yl
        rw [hV] at HV
        go_wp2_with fail
        clear hW5 hV
        refine (HPV.out _ HS5.out.bel).mono ?_
        rintro e w6 ⟨rfl, hb⟩
        have HS6 := hid (HS5.out.next hb)
        have HV6 := hid (nkeep hb HV.out)
        clear hb y0 y1 yl HPV
        have b7 := nbel w6 (.cells #[.slice none 0 0] 33)
        have v7 := nkeep b7 HV6.out
        have u7 := box_one w6 (.slice none 0 0) 33
        have HS7 := hid (HS6.out.next b7)
        clear b7
        go_wp2_with fail
        refine (same_none _).mono ?_
        rintro e w8 ⟨rfl, hb⟩
        have HS8 := hid (HS7.out.next hb)
        clear hb v7 u7
        go_wp2_with fail
        go_ret
        exact ⟨rfl, HS8.out.bel⟩
  · have e1 : (y == 0) = false := beq_eq_false_iff_ne.2 hy0
    have e2 : (y != 0) = true := by simp [hy0]
    have HDR := hid (fun W (h : Below w.heap.size w W) => draws_bad c g ao n cap A C y W HG.out HN.out (HR.out.kept h) HYE.out hy0)
    have HPV := hid (fun W (h : Below w.heap.size w W) => pv_run g ao n cap ai ni ci ad nd cd y W hy0 (hid (fun W2 h2 => run_bad c g ao n cap A C ai ni ci y W2 HG.out HN.out (HR.out.kept (h.trans (h2.mono h.size))) HYE.out hy0)))
    go_wp2_with fail
    refine (HDR.out _ HS1.out.bel).mono ?_
    rintro e w3 ⟨rfl, hb⟩
    replace HS1 := hid (HS1.out.next hb)
    clear hb z0 z1 zl
    obtain ⟨z0, z1, zl⟩ := HS1.out.box
    go_wp2_with fail
    refine (HPV.out _ HS1.out.bel).mono ?_
    rintro e w4 ⟨rfl, hb⟩
    replace HS1 := hid (HS1.out.next hb)
    clear hb z0 z1 zl
    have u7 := box_one w4 (.slice none 0 0) 33
    have HS7 := hid (HS1.out.next (nbel w4 (.cells #[.slice none 0 0] 33)))
    go_wp2_with fail
    go_ret
    exact ⟨rfl, HS7.out.bel⟩

end Go.Proofs.YtmjpcmeinlkfbaaDoor

/-
  A contract of the law FiatSays, for every circuit and every list: it answers true and writes nothing that was there.
-/
namespace Go.Proofs.YtmjpcmeinlkfbaaDoor
open Go.RowKit
set_option linter.unusedVariables false
attribute [local go_sem ↓] Go.wp_at_zero Go.wp_at_succ

theorem fiat_sizes {c : CQ} (hc : c.right) (N M : Nat) (f : Nat → Int) : ∀ j, j < (fiatP c N M f).n → (fiatP c N M f).rn j ≤ 1000 ∧ (fiatP c N M f).ln j ≤ 100000 ∧ ∀ i, i < (fiatP c N M f).rn j → (fiatP c N M f).rl j i ≤ 100000 := by
  unfold fiatP lastP
  exact right_sizes hc f _
theorem fiatP_n (c : CQ) (N M : Nat) (f : Nat → Int) : (fiatP c N M f).n = c.layers.length := by unfold fiatP lastP; rfl

/-- The document's answer lies there. -/
structure FsE (w W : World) (X V n bO M : Nat) (g : Int) (v : Value) (fo : Nat → Int) (p : PQ) (aP : Option Addr) (cP : Nat) (m : PM) : Prop where
  st : StW w W X g v
  row : Row W bO 0 M fo
  cv : W.cell? ⟨V, 0, none⟩ = some (.slice aP n cP)
  pf : PfRow W aP p m
theorem fs_end {w wr W : World} {X V n bO M : Nat} {g : Int} {v : Value} {fo : Nat → Int} {c : CQ} {N : Nat} {f : Nat → Int} {aP : Option Addr} {cP : Nat} {m : PM} (hst : StW w wr X g v) (hX : X ≠ V) (hlo : w.heap.size ≤ V) (hV : wr.cell? ⟨V, 0, none⟩ = some (.slice none 0 0)) (hb : Below wr.heap.size wr W) (hr : Row W bO 0 M fo) (hbO : wr.heap.size ≤ bO) (hn : c.layers.length = n) (hp : PfRow W aP (fiatP c N M f) m) (hf : (∀ a, aP = some a → wr.heap.size ≤ a.block) ∧ ∀ j, j < n → PartA (fun q => wr.heap.size ≤ q) (fiatP c N M f) m j) :
    FsE w (W.setCell ⟨V, 0, none⟩ (.slice aP n cP)) X V n bO M g v fo (fiatP c N M f) aP cP m := by
  have h1 := hst.next hb
  have hl : V < wr.heap.size := World.block_lt_of_cell? wr _ hV
  have of : ∀ q, q ≠ V → ∀ j z, (W.setCell ⟨V, 0, none⟩ z).cell? ⟨q, j, none⟩ = W.cell? ⟨q, j, none⟩ := fun q hq j z => World.cell?_setCell_other _ _ _ _ (by intro e; simp only [Addr.mk.injEq] at e; omega)
  refine ⟨⟨h1.bel.setCell hlo _, ⟨(of X hX 0 _).trans h1.box.c0, (of X hX 1 _).trans h1.box.c1, by rw [World.size_setCell]; exact h1.box.lt⟩⟩, fun j hj => (of bO (by omega) _ _).trans (hr j hj), World.cell?_setCell_same _ _ _ (nkeep hb hV), ?_⟩
  exact hp.keepS (S := fun q => wr.heap.size ≤ q) hf.1 (fun j hj => hf.2 j (by rw [fiatP_n, hn] at hj; exact hj)) (fun q hq => Below.heap_setCell _ _ _ _ (by show q ≠ V; omega))

set_option maxHeartbeats 8000000 in
set_option maxRecDepth 100000 in
theorem fsays_any (c : CQ) (g : Int) (ao : Option Addr) (n cap : Nat) (A : Nat → Option Addr) (C : Nat → Nat) (ai : Option Addr) (ni ci : Nat) (fi : Nat → Int) (w : World) (ht : Tab w) (hg : c.log = g) (hn : c.layers.length = n) (hr : CRow w ao c.layers A C) (hi : PRow w ai ni fi) (vi : Nums fi) (n63 : ni ≤ maxLen) :
    Calls Tryd.prog 4 #[.agg #[.int .i64 g, .slice ao n cap], .slice ai ni ci] w fun e w' => e = .returned (.bool true) ∧ Below w.heap.size w w' := by
  have HS0 := hid (StW.start w g (.slice ao n cap) 24)
  have HCI := hid (fun W (h : Below w.heap.size w W) => rcirc_any c g ao n cap A C W hg hn (hr.kept h))
  have HR := hid hr
  have HG := hid hg
  have HN := hid hn
  have HT := hid (fun W (h : Below w.heap.size w W) => ht.kept h ht.1)
  have HI := hid (And.intro hi vi)
  have n63' : (ni : Int) ≤ 9223372036854775807 := by have : maxLen ≤ 9223372036854775807 := by decide
                                                     omega
  clear hr hg hn ht hi vi n63
  obtain ⟨z0, z1, zl⟩ := HS0.out.box
  go_enter Tryd.func4, Tryd.ntmps4
  go_wp2_with fail
  obtain ⟨X, hX⟩ : ∃ X, w.heap.size = X := ⟨_, rfl⟩
  rw [hX] at HS0
  rw [hX]
  clear hX z0 z1 zl
  generalize w.alloc (.cells #[.int .i64 g, .slice ao n cap] 24) = W0 at HS0 ⊢
  refine (HCI.out _ HS0.out.bel).mono ?_
  rintro e w1 ⟨y, rfl, hy, hb⟩
  have HS1 := hid (HS0.out.next hb)
  have HYE := hid hy
  clear hb hy HS0 HCI
  obtain ⟨z0, z1, zl⟩ := HS1.out.box
  by_cases hy0 : y = 0
  · subst hy0
    have HC := hid (checkE_zero.1 HYE.out)
    obtain ⟨b, off, rfl⟩ := right_addr HC.out HR.out
    obtain ⟨gn, N, rfl, gn4, sh, hN, N1, N16, hNk⟩ := right_nums HG.out HN.out HC.out
    obtain ⟨M, hM⟩ : ∃ M, lenQ c n = M := ⟨_, rfl⟩
    have hMr := lenQ_rng HC.out n (by have := HN.out; omega)
    rw [hM] at hMr
    have n4 : n ≤ 4 := by have := HC.out.few; have := HN.out; omega
    have n1 : 1 ≤ n := by have := List.length_pos_iff.2 HC.out.some; have := HN.out; omega
    have HNL := hid hN
    have HML := hid hM
    have HSH := hid sh
    have HWD := hid (fun W (h : Below w.heap.size w W) => words_ok c (gn : Int) b off n cap A C W HG.out HN.out (HR.out.kept h) HC.out)
    have HRW := hid (fun W (h : Below w.heap.size w W) => rwords_ok c (gn : Int) b off n cap A C W HG.out HN.out (HR.out.kept h) HC.out)
    have gn0 : (0 : Int) ≤ (gn : Int) := by omega
    clear hN hNk sh HYE hM
    go_wp2_with fail
    refine (HWD.out _ HS1.out.bel).mono ?_
    rintro e w2 ⟨vw, rfl, how, hb⟩
    obtain ⟨aw, cw, rfl, hpw, _⟩ := how.is
    replace HS1 := hid (HS1.out.next hb)
    have HPW := hid hpw
    clear hb how hpw z0 z1 zl HWD
    obtain ⟨z0, z1, zl⟩ := HS1.out.box
    go_wp2_with fail
    refine (HRW.out _ HS1.out.bel).mono ?_
    rintro e w3 ⟨vx, rfl, hox, hb⟩
    obtain ⟨ax, cx, rfl, hpx, _⟩ := hox.is
    replace HS1 := hid (HS1.out.next hb)
    replace HPW := hid (HPW.out.kept hb)
    have HPX := hid hpx
    clear hb hox hpx z0 z1 zl HRW
    go_wp2_with fail
    refine (equal_ok aw ax (cwordsQ c).length cw cx (rowOf (cwordsQ c)) (rowOf (cwordsQ c)) w3 (by have := wordsT_len HC.out c.layers.length; have h2 := HC.out.few; unfold cwordsQ; omega) HPW.out HPX.out (fun _ _ => rfl)).mono ?_
    rintro e w4 ⟨rfl, hb⟩
    replace HS1 := hid (HS1.out.next hb)
    clear hb HPW HPX
    obtain ⟨z0, z1, zl⟩ := HS1.out.box
    go_wp2_with fail
    clear z0 z1 zl
    go_loopg [71] (n + 1) (fun q y wr => ∃ k : Nat, k ≤ n + 1 ∧ q = n + 1 - k ∧ y = .int .i64 (k : Int) ∧ Hid (StW w wr X (gn : Int) (.slice (some ⟨b, off, none⟩) n cap)))
    case atStart => exact ⟨0, by omega, rfl, rfl, HS1⟩
    case round =>
      clear HS1
      obtain ⟨k, hkn, rfl, rfl, HS1⟩ := hrel
      obtain ⟨z0, z1, zl⟩ := HS1.out.box
      by_cases hk : k < n + 1
      · have kl : (k : Int) < (n : Int) + 1 := by omega
        by_cases hkl : k < n
        · have kl2 : (k : Int) < (n : Int) := by omega
          have kne : ((k : Int) == (n : Int)) = false := by rw [beq_eq_false_iff_ne]; omega
          have kne2 : ¬ (k : Int) = (n : Int) := by omega
          obtain ⟨bk, hbk, bk4⟩ := belowQ_rng HC.out k
          have HBE : Hid (∀ W, Below w.heap.size w W → Calls Tryd.prog 18 #[.agg #[.int .i64 (gn : Int), .slice (some ⟨b, off, none⟩) n cap], .int .i64 (k : Int)] W fun e w' => e = .returned (.int .i64 (bk : Int)) ∧ Below W.heap.size W w') := hid (fun W h => by rw [← hbk]; exact rbelow_any c (gn : Int) b off n cap k A C W HG.out HN.out n4 (by omega) (HR.out.kept h))
          clear hbk
          go_wp2_with fail
          refine (HBE.out _ HS1.out.bel).mono ?_
          rintro e w5 ⟨rfl, hb⟩
          replace HS1 := hid (HS1.out.next hb)
          clear hb z0 z1 zl HBE
          obtain ⟨z0, z1, zl⟩ := HS1.out.box
          by_cases hb1 : 1 < bk
          · have hb2 : (1 : Int) < (bk : Int) := by omega
            go_wp2_with fail
            go_ret
            exact ⟨rfl, HS1.out.bel⟩
          · have hb2 : ¬ (1 : Int) < (bk : Int) := by omega
            go_wp2_with fail
            go_roundg (n + 1 - (k + 1))
            case measure => go_light; omega
            case rel => exact ⟨k + 1, by omega, rfl, by go_num, HS1⟩
        · have e : n = k := by omega
          subst e
          obtain ⟨last, hlast⟩ : ∃ last, n = last + 1 := ⟨n - 1, by omega⟩
          obtain ⟨l, hl⟩ : ∃ l, c.layers[last]? = some l := ⟨c.layers[last]'(by rw [HN.out]; omega), by simp⟩
          have x0 : ∃ lg : Int, wr.cell? ⟨b, off + last * 2, none⟩ = some (.int .i64 lg) := by
            obtain ⟨b', off', eb, hcc⟩ := HR.out.kept HS1.out.bel HC.out.some
            cases eb
            have := (hcc last l hl).1
            rw [Nat.mul_comm 2 last] at this
            exact ⟨_, this⟩
          obtain ⟨lg, x0⟩ := x0
          have l0 : (0 : Int) ≤ (last : Int) := by omega
          have l1 : (last : Int) < (n : Int) := by omega
          have l2 : (n : Int) - 1 = (last : Int) := by omega
          clear hl hlast
          by_cases hb1 : (1 : Int) < lg
          · go_wp2_with fail
            go_ret
            exact ⟨rfl, HS1.out.bel⟩
          · go_wp2_with fail
            go_roundg (n + 1 - (n + 1))
            case measure => go_light; omega
            case rel => exact ⟨n + 1, by omega, rfl, by go_num, HS1⟩
      · have e : k = n + 1 := by omega
        subst e
        have kl : ¬ (((n + 1 : Nat) : Int) < (n : Int) + 1) := by omega
        have b5 := nbel wr (.cells #[.slice none 0 0] 33)
        have HV := hid (box_one wr (.slice none 0 0) 33)
        have HFV := hid (World.frozen?_alloc_new wr #[.slice none 0 0] 33 0)
        have HSV := hid (HS1.out.next b5)
        have HVL : Hid (w.heap.size ≤ wr.heap.size ∧ X ≠ wr.heap.size) := hid ⟨HS1.out.bel.size, by have := HS1.out.box.lt; omega⟩
        clear b5 z0 z1 zl
        obtain ⟨y0, y1, yl⟩ := HSV.out.box
        have sh := HSH.out
        have HB0 : Hid (Below w.heap.size w (wr.alloc (.cells #[.slice none 0 0] 33)).drew) := hid HSV.out.bel.drew
        by_cases hi : ni = N
        · subst hi
          have k1 : ((ni : Int) == (ni : Int)) = true := by simp
          obtain ⟨bi, oi, rfl, hri⟩ := HI.out.1 (by omega)
          have HRI := hid hri
          clear hri
          have HVA := hid (fun W (h : Below w.heap.size w W) => (by have := rvals_any c (gn : Int) b off n cap A C bi oi ni ci fi HN.out HC.out HNL.out HI.out.2 n (Nat.le_refl _) ((n : Int) - 1) W rfl (HR.out.kept h) (HRI.out.kept h (HRI.out.lt (by omega))); rw [HML.out] at this; exact this : Calls Tryd.prog 19 #[.agg #[.int .i64 (gn : Int), .slice (some ⟨b, off, none⟩) n cap], .slice (some ⟨bi, oi, none⟩) ni ci, .int .i64 ((n : Int) - 1)] W fun e w' => ∃ v, e = .returned v ∧ Own w' W.heap.size v M (valsQ c fi n) ∧ Below W.heap.size W w'))
          have HFI := hid (fun W (h : Below w.heap.size w W) => rfiat_any c (gn : Int) b off n cap A C bi oi ni ci M fi W HG.out HN.out (HR.out.kept h) HC.out HNL.out HML.out (HRI.out.kept h (HRI.out.lt (by omega))) HI.out.2)
          have HPV := hid (fun W (h : Below w.heap.size w W) => fpv_ok c gn b off n cap A C bi oi ni ci M fi W HG.out HN.out (HR.out.kept h) HC.out HSH.out HNL.out HML.out (HRI.out.kept h (HRI.out.lt (by omega))) HI.out.2 (HT.out W h))
          have HSZ := hid (fiat_sizes HC.out ni M fi)
          have HPN : Hid ((fiatP c ni M fi).n = n) := hid (by rw [fiatP_n]; exact HN.out)
          obtain ⟨W5, hW5⟩ : ∃ W5, wr.alloc (.cells #[.slice none 0 0] 33) = W5 := ⟨_, rfl⟩
          obtain ⟨V, hV⟩ : ∃ V, wr.heap.size = V := ⟨_, rfl⟩
          rw [hW5] at HV HFV HSV HB0 y0 y1 yl
          rw [hV] at HV HFV HVL
          have w1 : IntKind.i64.wrap ((n : Int) - 1) = (n : Int) - 1 := IntWalk.i64_in _ (by omega)
          go_wp2_with fail
          clear hW5 hV
          have fV := HFV.out
          have nc5 : W5.cell? ⟨X, 0, none⟩ = some (.int .i64 (gn : Int)) ∧ W5.cell? ⟨X, 1, none⟩ = some (.slice (some ⟨b, off, none⟩) n cap) := ⟨y0, y1⟩
          go_cut [14] (fun a14 wx => ∃ (bO cO : Nat) (aP : Option Addr) (cP : Nat) (m : PM), a14 = .slice (some ⟨bO, 0, none⟩) M cO ∧ Hid (FsE w wx X V n bO M (gn : Int) (.slice (some ⟨b, off, none⟩) n cap) (valsQ c fi n) (fiatP c ni M fi) aP cP m))
          case first =>
            go_region_held3 (fun W => W.cell? ⟨X, 0, none⟩ = some (.int .i64 (gn : Int)) ∧ W.cell? ⟨X, 1, none⟩ = some (.slice (some ⟨b, off, none⟩) n cap)) (first | assumption | exact nc5 | exact ncA | exact ncB | exact ncC) (first
              | (go_at_call 19; first
                | (refine (HVA.out _ HBf.out).mono ?_; rintro e wB ⟨vO, rfl, hoO, hb⟩; obtain ⟨bO, cO, rfl, _, hrO, hlO, _⟩ := own_some hoO (by omega); have hbB : Below W5.heap.size W5 wB := HB1.out.trans (hb.mono HB1.out.size); have HEE : Hid (FsE w (wB.setCell ⟨V, 0, none⟩ (.slice aP n cP)) X V n bO M (gn : Int) (.slice (some ⟨b, off, none⟩) n cap) (valsQ c fi n) (fiatP c ni M fi) aP cP m) := hid (fs_end HSV.out HVL.out.2 HVL.out.1 HV.out hbB hrO (Nat.le_trans HB1.out.size hlO) HN.out (HPA.out.1.kept hb) HPA.out.2); have ncB : wB.cell? ⟨X, 0, none⟩ = some (.int .i64 (gn : Int)) ∧ wB.cell? ⟨X, 1, none⟩ = some (.slice (some ⟨b, off, none⟩) n cap) := ⟨nkeep hbB nc5.1, nkeep hbB nc5.2⟩; have ncC : (wB.setCell ⟨V, 0, none⟩ (.slice aP n cP)).cell? ⟨X, 0, none⟩ = some (.int .i64 (gn : Int)) ∧ (wB.setCell ⟨V, 0, none⟩ (.slice aP n cP)).cell? ⟨X, 1, none⟩ = some (.slice (some ⟨b, off, none⟩) n cap) := ⟨HEE.out.st.box.c0, HEE.out.st.box.c1⟩; have cV := nkeep hbB HV.out; have fVB : wB.frozen? ⟨V, 0, none⟩ = false := (hbB.frozen (World.block_lt_of_cell? W5 _ HV.out)).trans HFV.out; clear hb hoO hrO hlO hbB)
                | (refine (HVA.out _ HB0.out).mono ?_; rintro e wA ⟨vO, rfl, hoO, hb⟩; obtain ⟨bO, cO, rfl, _, hrO, hlO, _⟩ := own_some hoO (by omega); have HB1 : Hid (Below W5.heap.size W5 wA) := hid ((Below.refl _ W5).drew.trans hb); have HBv : Hid (Below w.heap.size w wA) := hid (HSV.out.bel.trans (HB1.out.mono HSV.out.bel.size)); have HRA : Hid (Row wA bO 0 M (valsQ c fi n) ∧ W5.heap.size ≤ bO) := hid ⟨hrO, hlO⟩; have ncA : wA.cell? ⟨X, 0, none⟩ = some (.int .i64 (gn : Int)) ∧ wA.cell? ⟨X, 1, none⟩ = some (.slice (some ⟨b, off, none⟩) n cap) := ⟨nkeep HB1.out nc5.1, nkeep HB1.out nc5.2⟩; clear hb hoO hrO hlO))
              | (go_at_call 20; first
                | (refine (HFI.out _ HBv.out).mono ?_; rintro e wB ⟨aP, cP, m, rfl, hpf, hfr, hb⟩; have hbB : Below W5.heap.size W5 wB := HB1.out.trans (hb.mono HB1.out.size); have HEE : Hid (FsE w (wB.setCell ⟨V, 0, none⟩ (.slice aP n cP)) X V n bO M (gn : Int) (.slice (some ⟨b, off, none⟩) n cap) (valsQ c fi n) (fiatP c ni M fi) aP cP m) := hid (fs_end HSV.out HVL.out.2 HVL.out.1 HV.out hbB (HRA.out.1.kept hb (HRA.out.1.lt (by omega))) HRA.out.2 HN.out hpf ⟨fun x hx => Nat.le_trans HB1.out.size (hfr.1 x hx), fun j hj => (hfr.2 j hj).mono fun q hq => Nat.le_trans HB1.out.size hq⟩); have ncB : wB.cell? ⟨X, 0, none⟩ = some (.int .i64 (gn : Int)) ∧ wB.cell? ⟨X, 1, none⟩ = some (.slice (some ⟨b, off, none⟩) n cap) := ⟨nkeep hbB nc5.1, nkeep hbB nc5.2⟩; have ncC : (wB.setCell ⟨V, 0, none⟩ (.slice aP n cP)).cell? ⟨X, 0, none⟩ = some (.int .i64 (gn : Int)) ∧ (wB.setCell ⟨V, 0, none⟩ (.slice aP n cP)).cell? ⟨X, 1, none⟩ = some (.slice (some ⟨b, off, none⟩) n cap) := ⟨HEE.out.st.box.c0, HEE.out.st.box.c1⟩; have cV := nkeep hbB HV.out; have fVB : wB.frozen? ⟨V, 0, none⟩ = false := (hbB.frozen (World.block_lt_of_cell? W5 _ HV.out)).trans HFV.out; clear hb hpf hfr hbB)
                | (refine (HFI.out _ HB0.out).mono ?_; rintro e wA ⟨aP, cP, m, rfl, hpf, hfr, hb⟩; have HB1 : Hid (Below W5.heap.size W5 wA) := hid ((Below.refl _ W5).drew.trans hb); have HBf : Hid (Below w.heap.size w wA) := hid (HSV.out.bel.trans (HB1.out.mono HSV.out.bel.size)); have HPA : Hid (PfRow wA aP (fiatP c ni M fi) m ∧ ((∀ a, aP = some a → W5.heap.size ≤ a.block) ∧ ∀ j, j < n → PartA (fun q => W5.heap.size ≤ q) (fiatP c ni M fi) m j)) := hid ⟨hpf, hfr⟩; have ncA : wA.cell? ⟨X, 0, none⟩ = some (.int .i64 (gn : Int)) ∧ wA.cell? ⟨X, 1, none⟩ = some (.slice (some ⟨b, off, none⟩) n cap) := ⟨nkeep HB1.out nc5.1, nkeep HB1.out nc5.2⟩; clear hb hpf hfr)))
            all_goals (go_wp2_with fail)
            all_goals go_meet
            all_goals exact ⟨_, _, _, _, _, rfl, HEE⟩
          case rest =>
            obtain ⟨bO, cO, aP, cP, m, rfl, HE⟩ := hcut
            clear nc5 fV y0 y1 yl HVA HFI HV HFV
            obtain ⟨z0, z1, zl⟩ := HE.out.st.box
            go_wp2_with fail
            refine (HPV.out _ HE.out.st.bel).mono ?_
            rintro e w8 ⟨dk, PB, m8, rfl, hr8, hp8, _, _, hb⟩
            have HS8 := hid (HE.out.st.next hb)
            have HR8 := hid hr8
            have HP8 := hid hp8
            have HRO := hid (HE.out.row.kept hb (HE.out.row.lt (by omega)))
            have HP7 := hid (HE.out.pf.kept hb)
            have HV7 := hid (nkeep hb HE.out.cv)
            clear hb hr8 hp8 z0 z1 zl HPV HE
            have b9 := nbel w8 (.cells #[.slice (some ⟨PB, 0, none⟩) n n] 33)
            have v9 := nkeep b9 HV7.out
            have u9 := box_one w8 (.slice (some ⟨PB, 0, none⟩) n n) 33
            have HS9 := hid (HS8.out.next b9)
            have HEQ := hid (equal_ok (some ⟨dk, 0, none⟩) (some ⟨bO, 0, none⟩) M M cO (valsQ c fi n) (valsQ c fi n) _ (by omega) (PRow.of (HR8.out.kept b9 (HR8.out.lt (by omega)))) (PRow.of (HRO.out.kept b9 (HRO.out.lt (by omega)))) (fun _ _ => rfl))
            replace HP8 := hid (HP8.out.kept b9)
            replace HP7 := hid (HP7.out.kept b9)
            clear b9
            go_wp2_with fail
            refine (HEQ.out).mono ?_
            rintro e w10 ⟨rfl, hb⟩
            have HS10 := hid (HS9.out.next hb)
            have v10 := nkeep hb v9
            have u10 := nkeep hb u9
            have HSP := hid (sameproof_ok (some ⟨PB, 0, none⟩) aP n n cP (fiatP c ni M fi) m8 m w10 HPN.out (by omega) (fun j hj => HSZ.out j (by rw [HPN.out]; exact hj)) (HP8.out.kept hb) (HP7.out.kept hb))
            clear hb v9 u9
            go_wp2_with fail
            refine (HSP.out).mono ?_
            rintro e w11 ⟨rfl, hb⟩
            have HS11 := hid (HS10.out.next hb)
            clear hb v10 u10
            go_wp2_with fail
            go_ret
            exact ⟨rfl, HS11.out.bel⟩
        · have k1 : ((ni : Int) == (N : Int)) = false := by rw [beq_eq_false_iff_ne]; omega
          have k2 : ¬ (ni : Int) = (N : Int) := by omega
          have HPV := hid (fun W (h : Below w.heap.size w W) => fpv_run (gn : Int) (some ⟨b, off, none⟩) n cap ai ni ci 4 W (by omega) (hid (fun W2 h2 => run_form c gn (some ⟨b, off, none⟩) n cap A C ai ni ci N W2 HG.out HN.out (HR.out.kept (h.trans (h2.mono h.size))) HC.out HSH.out hi)))
          go_wp2_with fail
          refine (HPV.out _ HSV.out.bel).mono ?_
          rintro e w6 ⟨rfl, hb⟩
          have HS6 := hid (HSV.out.next hb)
          have HV6 := hid (nkeep hb HV.out)
          clear hb y0 y1 yl HPV
          have b7 := nbel w6 (.cells #[.slice none 0 0] 33)
          have v7 := nkeep b7 HV6.out
          have u7 := box_one w6 (.slice none 0 0) 33
          have HS7 := hid (HS6.out.next b7)
          clear b7
          go_wp2_with fail
          refine (equal_ok none none 0 0 0 (fun _ => 0) (fun _ => 0) _ (by omega) (fun h => absurd h (by omega)) (fun h => absurd h (by omega)) (fun _ _ => rfl)).mono ?_
          rintro e w8 ⟨rfl, hb⟩
          have v8 := nkeep hb v7
          have u8 := nkeep hb u7
          have HS8 := hid (HS7.out.next hb)
          clear hb v7 u7
          go_wp2_with fail
          refine (same_none _).mono ?_
          rintro e w9 ⟨rfl, hb⟩
          have HS9 := hid (HS8.out.next hb)
          clear hb v8 u8
          go_wp2_with fail
          go_ret
          exact ⟨rfl, HS9.out.bel⟩
  · have e1 : (y == 0) = false := beq_eq_false_iff_ne.2 hy0
    have e2 : (y != 0) = true := by simp [hy0]
    have HDR := hid (fun W (h : Below w.heap.size w W) => words_bad c g ao n cap A C y W HG.out HN.out (HR.out.kept h) HYE.out hy0)
    have HPV := hid (fun W (h : Below w.heap.size w W) => fpv_run g ao n cap ai ni ci y W hy0 (hid (fun W2 h2 => run_bad c g ao n cap A C ai ni ci y W2 HG.out HN.out (HR.out.kept (h.trans (h2.mono h.size))) HYE.out hy0)))
    go_wp2_with fail
    refine (HDR.out _ HS1.out.bel).mono ?_
    rintro e w3 ⟨rfl, hb⟩
    replace HS1 := hid (HS1.out.next hb)
    clear hb z0 z1 zl
    obtain ⟨z0, z1, zl⟩ := HS1.out.box
    go_wp2_with fail
    refine (HPV.out _ HS1.out.bel).mono ?_
    rintro e w4 ⟨rfl, hb⟩
    replace HS1 := hid (HS1.out.next hb)
    clear hb z0 z1 zl
    have u7 := box_one w4 (.slice none 0 0) 33
    have HS7 := hid (HS1.out.next (nbel w4 (.cells #[.slice none 0 0] 33)))
    go_wp2_with fail
    go_ret
    exact ⟨rfl, HS7.out.bel⟩

end Go.Proofs.YtmjpcmeinlkfbaaDoor
