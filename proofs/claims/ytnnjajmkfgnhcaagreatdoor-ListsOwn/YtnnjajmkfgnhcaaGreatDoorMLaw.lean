/-
  Several texts in one: CircOpen, Spl, TreeI, Trees, Lso0, Corner, CircF, Tiny, Gkl1, RefCT, Equal, Lso1; each opens with what it holds.
-/
import Derived.Test.YtnnjajmkfgnhcaaGreatDoorChecked
import Derived.Test.YtnnjajmkfgnhcaaGreatDoorCirc
import Derived.OpenShut
import Derived.Deep.Strs
import Derived.Deep.SlicePairs
import Derived.Test.YtnnjajmkfgnhcaaGreatDoorMOpB
import Derived.Test.YtnnjajmkfgnhcaaGreatDoorOwn
import Derived.Test.YtnnjajmkfgnhcaaGreatDoorMFiat
import Derived.Test.YtnnjajmkfgnhcaaGreatDoorMOpA
import Derived.Test.YtnnjajmkfgnhcaaGreatDoorMle
import Derived.Test.YtnnjajmkfgnhcaaGreatDoorMSum
import Derived.Test.YtnnjajmkfgnhcaaGreatDoorMGkA
import Derived.Test.YtnnjajmkfgnhcaaGreatDoorUni
import Derived.Test.YtnnjajmkfgnhcaaGreatDoorMGkB
import Derived.ArgAppend
import Derived.Test.YtnnjajmkfgnhcaaGreatDoorClone
import Derived.Test.YtnnjajmkfgnhcaaGreatDoorCircC
import Derived.Test.YtnnjajmkfgnhcaaGreatDoorMRef
import Derived.Test.YtnnjajmkfgnhcaaGreatDoorKeep
import Derived.Deep.RegionHeld3
import Derived.Test.YtnnjajmkfgnhcaaGreatDoorCircT
import Derived.Test.YtnnjajmkfgnhcaaGreatDoorCircL
import Derived.Deep.RegionWith
import Derived.Deep.LoopGhost
import Derived.Deep.Light
import Derived.Deep.DrawnRows
/-
  What a circuit that came in gives the walk.
-/
namespace Go.Proofs.YtnnjajmkfgnhcaaGreatDoor
open Go.ChangeShapes Go.WideShapes Go.RowKit Go.Deep
set_option linter.unusedVariables false

/-- Numbers of Go's int. -/
def I64 (a : Int) : Prop := -9223372036854775808 ≤ a ∧ a ≤ 9223372036854775807
theorem i64_of_wf {a : Int} (h : (Lit.int .i64 a).wf = true) : I64 a := by
  simp [Lit.wf, IntKind.min, IntKind.max, IntKind.signed, IntKind.bits] at h
  unfold I64
  omega
/-- A circuit that came in. -/
structure IsCirc (w : World) (g : Int) (a : Option Addr) (len cap : Nat) (c : CQ) (A : Nat → Option Addr) (C : Nat → Nat) : Prop where
  log : c.log = g
  logR : I64 g
  lenE : c.layers.length = len
  capE : len ≤ cap
  maxE : cap ≤ maxLen
  row : CRow w a c.layers A C
  rng : ∀ l ∈ c.layers, I64 l.log ∧ l.gates.length ≤ maxLen ∧ ∀ q ∈ l.gates, I64 q.a ∧ I64 q.b
theorem add_three (a : Addr) (i j : Nat) : (a.add (i * 3)).add j = a.add (3 * i + j) := by rw [add_add, Nat.mul_comm]
theorem add_two (a : Addr) (i j : Nat) : (a.add (i * 2)).add j = a.add (2 * i + j) := by rw [add_add, Nat.mul_comm]
theorem gate_cells : Tryz.prog.cellsOf 93 = 3 := by kernel_rfl
theorem layer_cells : Tryz.prog.cellsOf 89 = 2 := by kernel_rfl
theorem circ_cells : Tryz.prog.cellsOf 25 = 2 := by kernel_rfl
theorem int_cells : Tryz.prog.cellsOf 3 = 1 := by kernel_rfl
theorem bool_cells : Tryz.prog.cellsOf 4 = 1 := by kernel_rfl
theorem gates_cells : Tryz.prog.cellsOf 87 = 1 := by kernel_rfl
theorem layers_cells : Tryz.prog.cellsOf 23 = 1 := by kernel_rfl
theorem cell_spot {w : World} {a : Addr} {u : Value} (h : w.cell? (a.add 0) = some u) : ∃ b off, a = ⟨b, off, none⟩ := by
  obtain ⟨b, off, spot⟩ := a
  have hspot : spot = none := by simpa [Addr.add] using World.cell?_spot h
  subst hspot
  exact ⟨b, off, rfl⟩

section
variable {H : Type} {enc : TypeId × Value → H} {W : World} {base : Nat} {held : Bool}
set_option maxRecDepth 100000 in
theorem gates_of {fuel : Nat} {a : Option Addr} {len cap : Nat} {x : DataW H × List MemPlace}
    (h : DataW.trod enc Tryz.prog W base (fun _ => true) held fuel 87 [Value.slice a len cap] = some x) :
    ∃ gs : List GQ, gs.length = len ∧ len ≤ cap ∧ len ≤ maxLen ∧ GRow W a gs ∧ ∀ g ∈ gs, I64 g.a ∧ I64 g.b := by
  rcases open_slice Tryz.underlying87 h with ⟨hcs, _⟩ | ⟨a', len', cap', m, n, D, Pl, hcs, _, hl, hm, hmm, _, hx⟩
  · simp at hcs
    obtain ⟨rfl, rfl, rfl⟩ := hcs
    exact ⟨[], rfl, Nat.le_refl _, Nat.zero_le _, fun h => absurd rfl h, by simp⟩
  · simp at hcs
    obtain ⟨rfl, rfl, rfl⟩ := hcs
    simp only [if_true] at hmm
    have each : ∀ i, i < len → ∃ g : GQ, W.cell? (a'.add (3 * i)) = some (.bool g.mul) ∧ W.cell? (a'.add (3 * i + 1)) = some (.int .i64 g.a) ∧ W.cell? (a'.add (3 * i + 2)) = some (.int .i64 g.b) ∧ I64 g.a ∧ I64 g.b := by
      intro i hi
      obtain ⟨cs', h1, h2⟩ := hx i (by omega)
      rw [gate_cells] at h1
      obtain ⟨_, hlen, hcell⟩ := World.cells?_some h1
      obtain ⟨y0, y1, y2, k, _, _, g0, g1, g2⟩ := trod_struct3 Tryz.underlying93 h2
      match cs', hlen with
      | [v0, v1, v2], _ =>
        simp [int_cells, bool_cells] at g0 g1 g2
        obtain ⟨b, e0, _⟩ := DataW.trod_bool Tryz.underlying4 g0
        obtain ⟨p, e1, _, r1⟩ := DataW.trod_int Tryz.underlying3 g1
        obtain ⟨q, e2, _, r2⟩ := DataW.trod_int Tryz.underlying3 g2
        simp at e0 e1 e2
        subst e0
        subst e1
        subst e2
        have c0 := hcell 0 (by omega)
        have c1 := hcell 1 (by omega)
        have c2 := hcell 2 (by omega)
        rw [add_three] at c0 c1 c2
        exact ⟨⟨b, p, q⟩, by simpa using c0, by simpa using c1, by simpa using c2, i64_of_wf r1, i64_of_wf r2⟩
    haveI : Inhabited GQ := ⟨⟨false, 0, 0⟩⟩
    obtain ⟨f, hf⟩ := choose_lt each
    have hg : ∀ j g, ((List.range len).map f)[j]? = some g → j < len ∧ g = f j := by
      intro j g e
      by_cases hj : j < len
      · simp [hj] at e; exact ⟨hj, e.symm⟩
      · simp [hj] at e
    refine ⟨(List.range len).map f, by simp, hl, Nat.le_trans hl hm, fun hne => ?_, fun g hg2 => ?_⟩
    · have h0 : 0 < len := by
        rcases Nat.eq_zero_or_pos len with e | e
        · rw [e] at hne; simp at hne
        · exact e
      obtain ⟨b, off, rfl⟩ := cell_spot (by simpa using (hf 0 h0).1)
      refine ⟨b, off, rfl, fun j g e => ?_⟩
      obtain ⟨hj, rfl⟩ := hg j g e
      obtain ⟨c0, c1, c2, _⟩ := hf j hj
      rw [Addr.add_lit] at c0 c1 c2
      exact ⟨c0, c1, c2⟩
    · obtain ⟨j, hj, rfl⟩ := List.mem_map.1 hg2
      exact (hf j (List.mem_range.1 hj)).2.2.2
set_option maxRecDepth 100000 in
theorem layers_of {fuel : Nat} {a : Option Addr} {len cap : Nat} {x : DataW H × List MemPlace}
    (h : DataW.trod enc Tryz.prog W base (fun _ => true) held fuel 23 [Value.slice a len cap] = some x) :
    ∃ (ls : List LQ) (A : Nat → Option Addr) (C : Nat → Nat), ls.length = len ∧ len ≤ cap ∧ cap ≤ maxLen ∧ CRow W a ls A C ∧ ∀ l ∈ ls, I64 l.log ∧ l.gates.length ≤ maxLen ∧ ∀ q ∈ l.gates, I64 q.a ∧ I64 q.b := by
  rcases open_slice Tryz.underlying23 h with ⟨hcs, _⟩ | ⟨a', len', cap', m, n, D, Pl, hcs, _, hl, hm, hmm, _, hx⟩
  · simp at hcs
    obtain ⟨rfl, rfl, rfl⟩ := hcs
    exact ⟨[], fun _ => none, fun _ => 0, rfl, Nat.le_refl _, Nat.zero_le _, fun h => absurd rfl h, by simp⟩
  · simp at hcs
    obtain ⟨rfl, rfl, rfl⟩ := hcs
    simp only [if_true] at hmm
    have each : ∀ i, i < len → ∃ y : LQ × Option Addr × Nat, W.cell? (a'.add (2 * i)) = some (.int .i64 y.1.log) ∧ W.cell? (a'.add (2 * i + 1)) = some (.slice y.2.1 y.1.gates.length y.2.2) ∧ GRow W y.2.1 y.1.gates ∧ y.1.gates.length ≤ y.2.2 ∧
        I64 y.1.log ∧ y.1.gates.length ≤ maxLen ∧ ∀ q ∈ y.1.gates, I64 q.a ∧ I64 q.b := by
      intro i hi
      obtain ⟨cs', h1, h2⟩ := hx i (by omega)
      rw [layer_cells] at h1
      obtain ⟨_, hlen, hcell⟩ := World.cells?_some h1
      obtain ⟨y0, y1, k, _, _, g0, g1⟩ := trod_struct2 Tryz.underlying89 h2
      match cs', hlen with
      | [v0, v1], _ =>
        simp [int_cells, gates_cells] at g0 g1
        obtain ⟨p, e0, _, r0⟩ := DataW.trod_int Tryz.underlying3 g0
        simp at e0
        subst e0
        obtain ⟨ga, gl, gc, rfl⟩ : ∃ ga gl gc, v1 = .slice ga gl gc := by
          rcases open_slice Tryz.underlying87 g1 with ⟨e, _⟩ | ⟨_, _, _, _, _, _, _, e, _⟩
          · simp at e; exact ⟨_, _, _, e⟩
          · simp at e; exact ⟨_, _, _, e⟩
        obtain ⟨gs, e1, e2, e3, e4, e5⟩ := gates_of g1
        have c0 := hcell 0 (by omega)
        have c1 := hcell 1 (by omega)
        rw [add_two] at c0 c1
        exact ⟨(⟨p, gs⟩, ga, gc), by simpa using c0, by simpa [e1] using c1, e4, by rw [e1]; exact e2, i64_of_wf r0, by rw [e1]; exact e3, e5⟩
    haveI : Inhabited (LQ × Option Addr × Nat) := ⟨(⟨0, []⟩, none, 0)⟩
    obtain ⟨f, hf⟩ := choose_lt each
    have hg : ∀ j g, ((List.range len).map fun i => (f i).1)[j]? = some g → j < len ∧ g = (f j).1 := by
      intro j g e
      by_cases hj : j < len
      · simp [hj] at e; exact ⟨hj, e.symm⟩
      · simp [hj] at e
    refine ⟨(List.range len).map fun i => (f i).1, fun i => (f i).2.1, fun i => (f i).2.2, by simp, hl, hm, fun hne => ?_, fun g hg2 => ?_⟩
    · have h0 : 0 < len := by
        rcases Nat.eq_zero_or_pos len with e | e
        · rw [e] at hne; simp at hne
        · exact e
      obtain ⟨b, off, rfl⟩ := cell_spot (by simpa using (hf 0 h0).1)
      refine ⟨b, off, rfl, fun j g e => ?_⟩
      obtain ⟨hj, rfl⟩ := hg j g e
      obtain ⟨c0, c1, c2, c3, _⟩ := hf j hj
      rw [Addr.add_lit] at c0 c1
      exact ⟨c0, c1, c2, c3⟩
    · obtain ⟨j, hj, rfl⟩ := List.mem_map.1 hg2
      exact (hf j (List.mem_range.1 hj)).2.2.2.2
set_option maxRecDepth 100000 in
theorem circ_val {v : Value} {d : DataW H} {p : List MemPlace} (hv : Value.okWide Tryz.prog W .any base 25 v) (h : DataW.Trod enc Tryz.prog W 0 (fun _ => true) true 25 v d p) :
    ∃ g a len cap, v = .agg #[.int .i64 g, .slice a len cap] := by
  obtain ⟨cs, rfl, hs⟩ := okWide_struct Tryz.underlying25 hv
  obtain ⟨fuel, hf⟩ := h
  obtain ⟨y0, y1, k, _, _, g0, g1⟩ := trod_struct2 Tryz.underlying25 hf
  rw [circ_cells] at hs
  obtain ⟨l⟩ := cs
  match l, hs with
  | [v0, v1], _ =>
    simp [Value.cells, int_cells, layers_cells] at g0 g1
    obtain ⟨p, e0, _, _⟩ := DataW.trod_int Tryz.underlying3 g0
    simp at e0
    subst e0
    rcases open_slice Tryz.underlying23 g1 with ⟨e, _⟩ | ⟨_, _, _, _, _, _, _, e, _⟩
    · simp at e; exact ⟨_, _, _, _, by rw [e]⟩
    · simp at e; exact ⟨_, _, _, _, by rw [e]⟩
set_option maxRecDepth 100000 in
theorem circ_of {g : Int} {a : Option Addr} {len cap : Nat} {d : DataW H} {p : List MemPlace} (h : DataW.Trod enc Tryz.prog W 0 (fun _ => true) true 25 (.agg #[.int .i64 g, .slice a len cap]) d p) :
    ∃ c A C, IsCirc W g a len cap c A C := by
  obtain ⟨fuel, hf⟩ := h
  obtain ⟨y0, y1, k, _, _, g0, g1⟩ := trod_struct2 Tryz.underlying25 hf
  simp [Value.cells, int_cells, layers_cells] at g0 g1
  obtain ⟨p, e0, _, r0⟩ := DataW.trod_int Tryz.underlying3 g0
  simp at e0
  subst e0
  obtain ⟨ls, A, C, e1, e2, e3, e4, e5⟩ := layers_of g1
  exact ⟨⟨g, ls⟩, A, C, rfl, i64_of_wf r0, e1, e2, e3, e4, e5⟩
end

end Go.Proofs.YtnnjajmkfgnhcaaGreatDoor

/-
  Contracts of tallykeep's spoil: it writes the cells of its list's block alone, up to the list's cap.
-/
namespace Go.Proofs.YtnnjajmkfgnhcaaGreatDoor
open Go.RowKit
set_option linter.unusedVariables false
attribute [local go_sem ↓] Go.wp_at_zero Go.wp_at_succ

/-- c cells of numbers that may be written. -/
def Wrt (w : World) (b off c : Nat) : Prop := ∀ j, j < c → (∃ x, w.cell? ⟨b, off + j, none⟩ = some (.int .u64 x)) ∧ w.frozen? ⟨b, off + j, none⟩ = false
theorem Wrt.set {w : World} {b off c : Nat} (h : Wrt w b off c) (b' i : Nat) (x : Int) : Wrt (w.setCell ⟨b', i, none⟩ (.int .u64 x)) b off c := fun j hj => by
  obtain ⟨⟨u, hu⟩, hf⟩ := h j hj
  refine ⟨?_, by rw [World.frozen?_setCell]; exact hf⟩
  by_cases e : b' = b ∧ i = off + j
  · obtain ⟨rfl, rfl⟩ := e
    exact ⟨x, World.cell?_setCell_same _ _ _ hu⟩
  · exact ⟨u, (World.cell?_setCell_other _ _ _ _ (by intro e2; simp only [Addr.mk.injEq] at e2; exact e ⟨e2.1, e2.2.1⟩)).trans hu⟩
theorem Wrt.kept {w w' : World} {b off c : Nat} (h : Wrt w b off c) (hb : Below w.heap.size w w') : Wrt w' b off c := fun j hj => by
  obtain ⟨⟨u, hu⟩, hf⟩ := h j hj
  have hl := World.block_lt_of_cell? w _ hu
  exact ⟨⟨u, (hb.cell hl).trans hu⟩, (hb.frozen hl).trans hf⟩
theorem Wrt.of {w : World} {b n : Nat} {f : Nat → Int} (h : Row w b 0 n f) (hf : Free w b 0 n) : Wrt w b 0 n := fun j hj => ⟨⟨_, h j hj⟩, hf j hj⟩
/-- Numbers alone were written: what else was there is there, and what might be written may be. -/
structure Spd (w w' : World) : Prop where
  cell : ∀ a v, w.cell? a = some v → (∀ x, v ≠ .int .u64 x) → w'.cell? a = some v
  wrt : ∀ b o c, Wrt w b o c → Wrt w' b o c
  size : w.heap.size ≤ w'.heap.size
theorem Spd.refl (w : World) : Spd w w := ⟨fun _ _ h _ => h, fun _ _ _ h => h, Nat.le_refl _⟩
theorem Spd.trans {w w' w'' : World} (h : Spd w w') (g : Spd w' w'') : Spd w w'' := ⟨fun a v h1 h2 => g.cell a v (h.cell a v h1 h2) h2, fun b o c h1 => g.wrt b o c (h.wrt b o c h1), Nat.le_trans h.size g.size⟩
theorem Spd.of {w w' : World} (h : Below w.heap.size w w') : Spd w w' := ⟨fun a v h1 _ => (h.cell (World.block_lt_of_cell? w a h1)).trans h1, fun _ _ _ h1 => h1.kept h, h.size⟩
theorem Spd.set {w wr : World} (h : Spd w wr) {b i : Nat} {u : Int} (hu : wr.cell? ⟨b, i, none⟩ = some (.int .u64 u)) (x : Int) : Spd w (wr.setCell ⟨b, i, none⟩ (.int .u64 x)) := by
  refine h.trans ⟨fun a v h1 h2 => ?_, fun b' o' c' h1 => h1.set b i x, by rw [World.size_setCell]; exact Nat.le_refl _⟩
  by_cases e : (⟨b, i, none⟩ : Addr) = a
  · subst e
    rw [hu] at h1
    cases h1
    exact absurd rfl (h2 u)
  · rw [World.cell?_setCell_other _ _ _ _ e]
    exact h1
set_option maxHeartbeats 2000000 in
set_option maxRecDepth 100000 in
theorem spoil_num (b off n cap : Nat) (x : Int) (w : World) (hc : n ≤ cap) (hm : cap ≤ maxLen) (h : Wrt w b off cap) :
    Calls Tryz.prog 18 #[.slice (some ⟨b, off, none⟩) n cap, .int .u64 x] w fun e w' => e = .returned (.tuple #[]) ∧ ButS (fun c => c = b) w w' ∧ Spd w w' := by
  have HW := hid h
  have c63 : (cap : Int) ≤ 9223372036854775807 := by have : maxLen ≤ 9223372036854775807 := by decide
                                                     omega
  have c0 : (0 : Int) ≤ (cap : Int) := by omega
  have c1 : (n : Int) ≤ (cap : Int) := by omega
  clear h hm
  go_enter Tryz.func18, Tryz.ntmps18
  go_wp2_with fail
  go_loopg [11] cap (fun q y wr => ∃ k : Nat, k ≤ cap ∧ q = cap - k ∧ y = .int .i64 (k : Int) ∧ Hid (Wrt wr b off cap) ∧ Hid (ButS (fun c => c = b) w wr) ∧ Hid (Spd w wr))
  case atStart => exact ⟨0, by omega, rfl, rfl, HW, hid (ButS.refl _ _), hid (Spd.refl _)⟩
  case round =>
    clear HW
    obtain ⟨k, hk, rfl, rfl, HW, HB, HP⟩ := hrel
    by_cases hlt : k < cap
    · obtain ⟨⟨u, hu⟩, hf⟩ := HW.out k hlt
      have k0 : (0 : Int) ≤ (k : Int) := by omega
      have k1 : (k : Int) < (cap : Int) := by omega
      have HW2 := hid (HW.out.set b (off + k) x)
      have HP2 := hid (HP.out.set hu x)
      have HB2 := hid (HB.out.set (b := b) (q := off + k) rfl (.int .u64 x))
      go_wp2_with fail
      go_roundg (cap - (k + 1))
      case measure => go_light; omega
      case rel => exact ⟨k + 1, by omega, rfl, by go_num, HW2, HB2, HP2⟩
    · have e : cap = k := by omega
      subst e
      go_wp2_with fail
      go_end0
      exact ⟨rfl, HB.out, HP.out⟩
set_option maxHeartbeats 2000000 in
set_option maxRecDepth 100000 in
theorem spoil_pair (b off n cap : Nat) (x y : Int) (w : World) (hc : n ≤ cap) (hm : cap ≤ maxLen) (h : Wrt w b off (2 * cap)) :
    Calls Tryz.prog 19 #[.slice (some ⟨b, off, none⟩) n cap, .agg #[.int .u64 x, .int .u64 y]] w fun e w' => e = .returned (.tuple #[]) ∧ ButS (fun c => c = b) w w' ∧ Spd w w' := by
  have hb0 : Below w.heap.size w (w.alloc (.cells #[.int .u64 x, .int .u64 y] 52)) := (Below.refl _ w).alloc (Nat.le_refl _) _
  have HW := hid (h.kept hb0)
  have HB0 := hid (ButS.of (S := fun c => c = b) hb0)
  have HP0 := hid (Spd.of hb0)
  have x0 : (w.alloc (.cells #[.int .u64 x, .int .u64 y] 52)).cell? ⟨w.heap.size, 0, none⟩ = some (.int .u64 x) := by rw [World.cell?_alloc_new]; rfl
  have x1 : (w.alloc (.cells #[.int .u64 x, .int .u64 y] 52)).cell? ⟨w.heap.size, 1, none⟩ = some (.int .u64 y) := by rw [World.cell?_alloc_new]; rfl
  have HX := hid (And.intro x0 x1)
  have HNE : Hid (0 < cap → b ≠ w.heap.size) := hid (fun h0 => by
    obtain ⟨⟨u, hu⟩, _⟩ := h 0 (by omega)
    have hl := World.block_lt_of_cell? w _ hu
    have hl : b < w.heap.size := hl
    omega)
  have c63 : (cap : Int) ≤ 9223372036854775807 := by have : maxLen ≤ 9223372036854775807 := by decide
                                                     omega
  have c0 : (0 : Int) ≤ (cap : Int) := by omega
  have c1 : (n : Int) ≤ (cap : Int) := by omega
  clear h hm x0 x1 hb0
  go_enter Tryz.func19, Tryz.ntmps19
  go_wp2_with fail
  obtain ⟨X, hX⟩ : ∃ X, w.heap.size = X := ⟨_, rfl⟩
  rw [hX] at HX HNE
  rw [hX]
  clear hX
  generalize w.alloc (.cells #[.int .u64 x, .int .u64 y] 52) = W0 at HW HB0 HX HP0 ⊢
  go_loopg [11] cap (fun q z wr => ∃ k : Nat, k ≤ cap ∧ q = cap - k ∧ z = .int .i64 (k : Int) ∧ Hid (Wrt wr b off (2 * cap)) ∧ Hid (wr.cell? ⟨X, 0, none⟩ = some (.int .u64 x) ∧ wr.cell? ⟨X, 1, none⟩ = some (.int .u64 y)) ∧ Hid (ButS (fun c => c = b) w wr) ∧ Hid (Spd w wr))
  case atStart => exact ⟨0, by omega, rfl, rfl, HW, HX, HB0, HP0⟩
  case round =>
    clear HW HX HB0 HP0
    obtain ⟨k, hk, rfl, rfl, HW, HX, HB, HP⟩ := hrel
    by_cases hlt : k < cap
    · obtain ⟨⟨u, hu⟩, hf⟩ := HW.out (k * 2) (by omega)
      obtain ⟨⟨u', hu'⟩, hf'⟩ := HW.out (k * 2 + 1) (by omega)
      rw [← Nat.add_assoc] at hu' hf'
      have hne := HNE.out (by omega)
      obtain ⟨x0, x1⟩ := HX.out
      have k0 : (0 : Int) ≤ (k : Int) := by omega
      have k1 : (k : Int) < (cap : Int) := by omega
      have HW2 := hid ((HW.out.set b (off + k * 2) x).set b (off + k * 2 + 1) y)
      have HP2 := hid ((HP.out.set hu x).set (b := b) (i := off + k * 2 + 1) (u := u') (by rw [World.cell?_setCell_other _ _ _ _ (by intro e; simp only [Addr.mk.injEq] at e; omega)]; exact hu') y)
      have HB2 := hid ((HB.out.set (b := b) (q := off + k * 2) rfl (.int .u64 x)).set (b := b) (q := off + k * 2 + 1) rfl (.int .u64 y))
      have of : ∀ (W : World) (i j : Nat) (z : Value), (W.setCell ⟨b, i, none⟩ z).cell? ⟨X, j, none⟩ = W.cell? ⟨X, j, none⟩ := fun W i j z => World.cell?_setCell_other _ _ _ _ (by intro e; simp only [Addr.mk.injEq] at e; exact hne e.1)
      have HX2 : Hid (((wr.setCell ⟨b, off + k * 2, none⟩ (.int .u64 x)).setCell ⟨b, off + k * 2 + 1, none⟩ (.int .u64 y)).cell? ⟨X, 0, none⟩ = some (.int .u64 x) ∧ ((wr.setCell ⟨b, off + k * 2, none⟩ (.int .u64 x)).setCell ⟨b, off + k * 2 + 1, none⟩ (.int .u64 y)).cell? ⟨X, 1, none⟩ = some (.int .u64 y)) := hid ⟨(of _ _ _ _).trans ((of _ _ _ _).trans x0), (of _ _ _ _).trans ((of _ _ _ _).trans x1)⟩
      clear of
      go_wp2_with fail
      go_roundg (cap - (k + 1))
      case measure => go_light; omega
      case rel => exact ⟨k + 1, by omega, rfl, by go_num, HW2, HX2, HB2, HP2⟩
    · have e : cap = k := by omega
      subst e
      go_wp2_with fail
      go_end0
      exact ⟨rfl, HB.out, HP.out⟩

end Go.Proofs.YtnnjajmkfgnhcaaGreatDoor

/-
  What is asked of package tree's functions: Root, Path and Climb, each for every input (a structure of contracts; the text Trees shows it of the landed package).
-/
namespace Go.Proofs.YtnnjajmkfgnhcaaGreatDoor
open Go.RowKit
set_option linter.unusedVariables false

structure TreeC : Prop where
  root_ok : ∀ (n N b off cap : Nat) (f : Nat → Int) (w : World) (hn : n ≤ 8) (hN : N = 2 ^ n) (hc : N ≤ cap) (ht : Tab w) (hr : Row w b off N f) (hv : Nums f),
    Calls Tryz.prog 27 #[.slice (some ⟨b, off, none⟩) N cap] w fun e w' => e = .returned (.tuple #[.int .u64 (rootQ n f), .int .i64 0]) ∧ Below w.heap.size w w'
  root_form : ∀ (ao : Option Addr) (N cap : Nat) (w : World) (h : ∀ n, n ≤ 8 → N ≠ 2 ^ n) (hmax : N ≤ maxLen),
    Calls Tryz.prog 27 #[.slice ao N cap] w fun e w' => e = .returned (.tuple #[.int .u64 0, .int .i64 4]) ∧ Below w.heap.size w w'
  path_ok : ∀ (n N b off cap i : Nat) (f : Nat → Int) (w : World) (hn : n ≤ 8) (hN : N = 2 ^ n) (hc : N ≤ cap) (ht : Tab w) (hr : Row w b off N f) (hv : Nums f) (hi : i < N),
    Calls Tryz.prog 16 #[.slice (some ⟨b, off, none⟩) N cap, .int .i64 (i : Int)] w fun e w' => ∃ ao c, e = .returned (.tuple #[.slice ao n c, .int .i64 0]) ∧ n ≤ c ∧ PRow w' ao n (pathQ n f i) ∧ Below w.heap.size w w'
  path_form : ∀ (ao : Option Addr) (N cap : Nat) (i : Int) (w : World) (h : ∀ n, n ≤ 8 → N ≠ 2 ^ n) (hmax : N ≤ maxLen),
    Calls Tryz.prog 16 #[.slice ao N cap, .int .i64 i] w fun e w' => e = .returned (.tuple #[.slice none 0 0, .int .i64 4]) ∧ Below w.heap.size w w'
  path_arg : ∀ (n N cap : Nat) (ao : Option Addr) (i : Int) (w : World) (hn : n ≤ 8) (hN : N = 2 ^ n) (ht : Tab w) (hi : i < 0 ∨ (N : Int) ≤ i),
    Calls Tryz.prog 16 #[.slice ao N cap, .int .i64 i] w fun e w' => e = .returned (.tuple #[.slice none 0 0, .int .i64 1]) ∧ Below w.heap.size w w'
  climb_ok : ∀ (n cap i : Nat) (ao : Option Addr) (leaf : Int) (p : Nat → Int) (w : World) (hn : n ≤ 8) (hc : n ≤ cap) (hr : PRow w ao n p) (hv : Nums p) (hi : i < 2 ^ n) (l0 : 0 ≤ leaf) (l1 : leaf ≤ 18446744073709551615),
    Calls Tryz.prog 84 #[.int .i64 (i : Int), .int .u64 leaf, .slice ao n cap] w fun e w' => e = .returned (.tuple #[.int .u64 (climbQ n i leaf p), .int .i64 0]) ∧ Below w.heap.size w w'
  climb_arg : ∀ (n cap : Nat) (i : Int) (ao : Option Addr) (leaf : Int) (w : World) (hm : n ≤ maxLen) (h : 8 < n ∨ i < 0 ∨ (n ≤ 8 ∧ ((2 ^ n : Nat) : Int) ≤ i)) (h63 : i ≤ 9223372036854775807) (h64 : -9223372036854775808 ≤ i),
    Calls Tryz.prog 84 #[.int .i64 i, .int .u64 leaf, .slice ao n cap] w fun e w' => e = .returned (.tuple #[.int .u64 0, .int .i64 1]) ∧ Below w.heap.size w w'

end Go.Proofs.YtnnjajmkfgnhcaaGreatDoor

/-
  Package tree's Root, Path and Climb: what is asked of them (TreeC) holds, each for every input; they write nothing that was there.
-/
namespace Go.Proofs.YtnnjajmkfgnhcaaGreatDoor
open Go.RowKit
set_option linter.unusedVariables false
attribute [local go_sem ↓] Go.wp_at_zero Go.wp_at_succ

set_option maxHeartbeats 1000000 in
theorem tpath_ok (n N b off cap i : Nat) (f : Nat → Int) (w : World) (hn : n ≤ 8) (hN : N = 2 ^ n) (hc : N ≤ cap) (ht : Tab w) (hr : Row w b off N f) (hv : Nums f) (hi : i < N) :
    Calls Tryz.prog 16 #[.slice (some ⟨b, off, none⟩) N cap, .int .i64 (i : Int)] w fun e w' => ∃ a, e = .returned (.tuple #[.slice (some ⟨a, 0, none⟩) n n, .int .i64 0]) ∧ w.heap.size ≤ a ∧ Row w' a 0 n (pathQ n f i) ∧ Free w' a 0 n ∧ Below w.heap.size w w' := by
  have hb0 := (Below.refl w.heap.size w).alloc (Nat.le_refl _) (.cells #[.int .i64 (i : Int)] 3)
  have HPS := hid (tpaths_ok n N b off cap 1 1 (some ⟨w.heap.size, 0, none⟩) f (fun _ => i) (w.alloc (.cells #[.int .i64 (i : Int)] 3)) hn hN (ht.kept hb0 ht.1) (hr.kept hb0 (hr.lt (by omega))) hv (by omega) (IRowP.one w (i : Int) 3) (fun _ _ => hi))
  have HB0 := hid hb0
  clear hN ht hr hv hi hb0
  go_enter Tryz.func16, Tryz.ntmps16
  go_wp2_with (go_at_call 41; refine (HPS.out).mono ?_; rintro e w1 ⟨W, a, rfl, hb, hl⟩; have c1 := hl.cell 0 (by omega); have HB := hid hb; have HL := hid hl; clear hb hl)
  go_ret2
  refine ⟨a 0, rfl, ?_, HL.out.row 0 (by omega), HL.out.may 0 (by omega), ?_⟩
  · have h1 := (HL.out.high 0 (by omega)).1
    have h2 := HB.out.size
    have h3 := HB0.out.size
    omega
  · exact (HB0.out.trans (HB.out.mono HB0.out.size)).trans (HL.out.below.mono (Nat.le_trans HB0.out.size HB.out.size))
set_option maxHeartbeats 1000000 in
theorem tpath_form (ao : Option Addr) (N cap : Nat) (i : Int) (w : World) (h : ∀ n, n ≤ 8 → N ≠ 2 ^ n) (hmax : N ≤ maxLen) :
    Calls Tryz.prog 16 #[.slice ao N cap, .int .i64 i] w fun e w' => e = .returned (.tuple #[.slice none 0 0, .int .i64 4]) ∧ Below w.heap.size w w' := by
  have HB0 := hid ((Below.refl w.heap.size w).alloc (Nat.le_refl _) (.cells #[.int .i64 i] 3))
  have HV := hid (tpaths_form ao (some ⟨w.heap.size, 0, none⟩) N cap 1 1 (w.alloc (.cells #[.int .i64 i] 3)) h hmax)
  clear h
  go_enter Tryz.func16, Tryz.ntmps16
  go_wp2_with (go_at_call 41; refine (HV.out).mono ?_; rintro e w1 ⟨rfl, hb⟩; have HB := hid hb; clear hb)
  go_ret2
  exact ⟨rfl, HB0.out.trans (HB.out.mono HB0.out.size)⟩
set_option maxHeartbeats 1000000 in
theorem tpath_arg (n N cap : Nat) (ao : Option Addr) (i : Int) (w : World) (hn : n ≤ 8) (hN : N = 2 ^ n) (ht : Tab w) (hi : i < 0 ∨ (N : Int) ≤ i) :
    Calls Tryz.prog 16 #[.slice ao N cap, .int .i64 i] w fun e w' => e = .returned (.tuple #[.slice none 0 0, .int .i64 1]) ∧ Below w.heap.size w w' := by
  have hb0 := (Below.refl w.heap.size w).alloc (Nat.le_refl _) (.cells #[.int .i64 i] 3)
  have HV := hid (tpaths_arg1 n N cap w.heap.size ao i (w.alloc (.cells #[.int .i64 i] 3)) hn hN (ht.kept hb0 ht.1) hi (by rw [World.cell?_alloc_new]; rfl))
  have HB0 := hid hb0
  clear hN ht hi hb0
  go_enter Tryz.func16, Tryz.ntmps16
  go_wp2_with (go_at_call 41; refine (HV.out).mono ?_; rintro e w1 ⟨rfl, hb⟩; have HB := hid hb; clear hb)
  go_ret2
  exact ⟨rfl, HB0.out.trans (HB.out.mono HB0.out.size)⟩
theorem tree_is : TreeC where
  root_ok := troot_ok
  root_form := troot_form
  path_ok := fun n N b off cap i f w hn hN hc ht hr hv hi => (tpath_ok n N b off cap i f w hn hN hc ht hr hv hi).mono fun e w' ⟨a, h1, h2, h3, h4, h5⟩ => ⟨_, _, h1, Nat.le_refl _, PRow.of h3, h5⟩
  path_form := tpath_form
  path_arg := tpath_arg
  climb_ok := fun n cap i ao leaf p w hn hc hr hv hi l0 l1 => tclimb_ok n cap i ao leaf p w hn hr hv hi l0 l1
  climb_arg := fun n cap i ao leaf w hm h _ _ => tclimb_arg n cap i ao leaf w hm h

end Go.Proofs.YtnnjajmkfgnhcaaGreatDoor

/-
  Lists that were handed out and are written over (the law ListsOwn): where they lie, and what stays.
-/
namespace Go.Proofs.YtnnjajmkfgnhcaaGreatDoor
open Go.RowKit
set_option linter.unusedVariables false
attribute [local go_sem ↓] Go.wp_at_zero Go.wp_at_succ

/-- A list of c numbers and no more at block b, from E on, that may be written. -/
def Okb (E : Nat) (W : World) (b c : Nat) : Prop := Wrt W b 0 c ∧ E ≤ b ∧ c ≤ 1000
theorem Okb.spd {E : Nat} {W W' : World} {b c : Nat} (h : Okb E W b c) (hs : Spd W W') : Okb E W' b c := ⟨hs.wrt _ _ _ h.1, h.2⟩
theorem Okb.kept {E : Nat} {W W' : World} {b c : Nat} (h : Okb E W b c) (hb : Below W.heap.size W W') : Okb E W' b c := h.spd (Spd.of hb)
/-- m such lists, at block B. -/
def HLs (E : Nat) (W : World) (B m : Nat) : Prop := ∀ j, j < m → ∃ b c, W.cell? ⟨B, j, none⟩ = some (.slice (some ⟨b, 0, none⟩) c c) ∧ Okb E W b c
theorem HLs.spd {E : Nat} {W W' : World} {B m : Nat} (h : HLs E W B m) (hs : Spd W W') : HLs E W' B m := fun j hj => by
  obtain ⟨b, c, h1, h2⟩ := h j hj
  exact ⟨b, c, hs.cell _ _ h1 (fun x e => by cases e), h2.spd hs⟩
/-- A slice's cell stays. -/
theorem Spd.sl {W W' : World} (hs : Spd W W') {a : Addr} {ao : Option Addr} {n c : Nat} (h : W.cell? a = some (.slice ao n c)) : W'.cell? a = some (.slice ao n c) := hs.cell _ _ h (fun x e => by cases e)
/-- One look of n pairs, at block lb. -/
def Lko (E : Nat) (W : World) (lb n : Nat) : Prop := ∃ pb tb, W.cell? ⟨lb, 0, none⟩ = some (.slice (some ⟨pb, 0, none⟩) n n) ∧ W.cell? ⟨lb, 1, none⟩ = some (.slice (some ⟨tb, 0, none⟩) n n) ∧ E ≤ pb ∧ Wrt W pb 0 (2 * n) ∧ HLs E W tb (2 * n)
theorem Lko.spd {E : Nat} {W W' : World} {lb n : Nat} (h : Lko E W lb n) (hs : Spd W W') : Lko E W' lb n := by
  obtain ⟨pb, tb, h1, h2, h3, h4, h5⟩ := h
  exact ⟨pb, tb, hs.sl h1, hs.sl h2, h3, hs.wrt _ _ _ h4, h5.spd hs⟩
/-- n parts of a proof, at block PB. -/
def Lkp (E : Nat) (W : World) (PB n : Nat) : Prop := ∀ j, j < n → ∃ R k b c, W.cell? ⟨PB, 2 * j, none⟩ = some (.slice (some ⟨R, 0, none⟩) k k) ∧ k ≤ 1000 ∧ HLs E W R k ∧ W.cell? ⟨PB, 2 * j + 1, none⟩ = some (.slice (some ⟨b, 0, none⟩) c c) ∧ Okb E W b c
theorem Lkp.spd {E : Nat} {W W' : World} {PB n : Nat} (h : Lkp E W PB n) (hs : Spd W W') : Lkp E W' PB n := fun j hj => by
  obtain ⟨R, k, b, c, h1, h2, h3, h4, h5⟩ := h j hj
  exact ⟨R, k, b, c, hs.sl h1, h2, h3.spd hs, hs.sl h4, h5.spd hs⟩
theorem Okb.of {E : Nat} {W : World} {b c : Nat} {f : Nat → Int} (h : Row W b 0 c f) (hf : Free W b 0 c) (hE : E ≤ b) (hc : c ≤ 1000) : Okb E W b c := ⟨Wrt.of h hf, hE, hc⟩

/-- One list is written over: nothing below E is. -/
theorem spoil_own {E : Nat} {WE : World} (b c : Nat) (x : Int) (W : World) (hE : WE.heap.size = E) (hb : Below E WE W) (ho : Okb E W b c) :
    Calls Tryz.prog 18 #[.slice (some ⟨b, 0, none⟩) c c, .int .u64 x] W fun e w' => e = .returned (.tuple #[]) ∧ Below E WE w' ∧ Spd W w' :=
  (spoil_num b 0 c c x W (Nat.le_refl _) (by have := ho.2.2; unfold maxLen; omega) ho.1).mono fun e w' ⟨h1, h2, h3⟩ => ⟨h1, hb.trans (h2.below (fun k hk => by rw [show k = b from hk]; exact ho.2.1) (by rw [← hE]; exact hb.size)), h3⟩
theorem spoil_own2 {E : Nat} {WE : World} (b c : Nat) (x y : Int) (W : World) (hE : WE.heap.size = E) (hb : Below E WE W) (hw : Wrt W b 0 (2 * c)) (hbE : E ≤ b) (hc : c ≤ 1000) :
    Calls Tryz.prog 19 #[.slice (some ⟨b, 0, none⟩) c c, .agg #[.int .u64 x, .int .u64 y]] W fun e w' => e = .returned (.tuple #[]) ∧ Below E WE w' ∧ Spd W w' :=
  (spoil_pair b 0 c c x y W (Nat.le_refl _) (by unfold maxLen; omega) hw).mono fun e w' ⟨h1, h2, h3⟩ => ⟨h1, hb.trans (h2.below (fun k hk => by rw [show k = b from hk]; exact hbE) (by rw [← hE]; exact hb.size)), h3⟩

/-- A call that hands out one list and no error. -/
def out1 (E : Nat) (W : World) (e : Ending) (w' : World) : Prop := ∃ b c, e = .returned (.tuple #[.slice (some ⟨b, 0, none⟩) c c, .int .i64 0]) ∧ Okb E w' b c ∧ Below W.heap.size W w'
theorem made_out {E : Nat} {W : World} {e : Ending} {w' : World} {n : Nat} {f : Nat → Int} (hE : E ≤ W.heap.size) (hn : n ≤ 1000) (h : e = .returned (.tuple #[.slice (some ⟨W.heap.size, 0, none⟩) n n, .int .i64 0]) ∧ Made W w' n f) : out1 E W e w' := ⟨_, _, h.1, Okb.of h.2.row h.2.free hE hn, h.2.below⟩
/-- The lists that append leaves. -/
theorem hls_append {E base : Nat} {W W' : World} {t : TypeId} {v : Value} {k : Nat} {xs : List Value} (h : W'.ownsRow base t 1 v k xs) (hg : W.grownBy W' none) (hk : 0 < k) (hx : ∀ u ∈ xs, ∃ b c, u = .slice (some ⟨b, 0, none⟩) c c ∧ Okb E W b c) :
    ∃ AB cap, v = .slice (some ⟨AB, 0, none⟩) k cap ∧ HLs E W' AB k ∧ Below W.heap.size W W' := by
  have hb : Below W.heap.size W W' := (Below.refl _ W).grown hg (Nat.le_refl _) (by intro t ht; cases ht)
  have hl := h.1
  have h0 := h
  rcases h.2 with ⟨_, h1⟩ | ⟨g, cap, cur, rfl, _⟩
  · omega
  · refine ⟨g, cap, rfl, fun j hj => ?_, hb⟩
    have hc := h0.cellAt j (by omega)
    have hj2 : j < xs.length := by omega
    rw [List.getElem?_eq_getElem hj2] at hc
    obtain ⟨b, c, e, ho⟩ := hx _ (List.getElem_mem hj2)
    rw [e] at hc
    exact ⟨b, c, hc, ho.kept hb⟩
theorem ownsO.look {E : Nat} {W w' : World} {n rb lb : Nat} (h : ownsO W w' n 1 rb lb) (hE : E ≤ W.heap.size) (hn : n ≤ 1000) : Lko E w' lb n := by
  obtain ⟨_, _, pb, tb, pa, hk⟩ := h
  obtain ⟨h1, h2, h3, h4, h5⟩ := hk 0 (by omega)
  refine ⟨pb 0, tb 0, h1, h2, by omega, fun j hj => by rw [Nat.zero_add]; exact h4 j hj, fun j hj => ?_⟩
  obtain ⟨g1, g2, g3, f, g4⟩ := h5 (j / 2) (j % 2) (by omega) (by omega)
  rw [show 2 * (j / 2) + j % 2 = j from by omega] at g1
  exact ⟨_, _, g1, Okb.of g4 g3 (by omega) (by omega)⟩
theorem proof_parts {E : Nat} {W w' : World} {e : Ending} {c : CQ} {f D : Nat → Int} {n : Nat} (h : proveOwn c f D n W e w') (hE : E ≤ W.heap.size) (hn : c.layers.length = n) (hc : c.right) : ∃ PB, e = .returned (.tuple #[.agg #[.slice (some ⟨PB, 0, none⟩) n n], .int .i64 0]) ∧ Lkp E w' PB n ∧ Below W.heap.size W w' := by
  obtain ⟨PB, m, he, hpf, ⟨hlo, hfr⟩, hmay, hb⟩ := h
  refine ⟨PB, he, fun j hj => ?_, hb⟩
  have hj' : j < (rightP c f D).n := by show j < c.layers.length; omega
  obtain ⟨b0, o0, e0, hr⟩ := hpf (by omega)
  injection e0 with e0
  injection e0 with e1 e2
  subst e1
  subst e2
  obtain ⟨h1, h2, h3, h4⟩ := hr j hj'
  obtain ⟨⟨R, hR, hR2⟩, ⟨L, hL, hL2⟩, hA⟩ := hfr j hj'
  obtain ⟨⟨hlc, hlf⟩, hrc, hcf⟩ := hmay j hj'
  have hlg := parts_lg hc (j + 1)
  rw [Nat.zero_add] at h1 h2
  rw [hR, hrc] at h1
  rw [hL, hlc] at h2
  refine ⟨R, (rightP c f D).rn j, L, (rightP c f D).ln j, h1, by show 2 * (partsQ c).lg (j + 1) ≤ 1000; omega, fun i hi => ?_, h2, ?_⟩
  · obtain ⟨b3, o3, e3, h5⟩ := h3 (by omega)
    rw [hR] at e3
    injection e3 with e3
    injection e3 with e4 e5
    subst e4
    subst e5
    obtain ⟨h6, h7⟩ := h5 i hi
    obtain ⟨q, hq, hq2⟩ := hA i hi
    obtain ⟨hC, hCf⟩ := hcf i hi
    rw [Nat.zero_add, hq, hC] at h6
    obtain ⟨b4, o4, e6, h8⟩ := h7 (by show 0 < 3; omega)
    rw [hq] at e6
    injection e6 with e6
    injection e6 with e7 e8
    subst e7
    subst e8
    exact ⟨q, (rightP c f D).rl j i, h6, Okb.of h8 (hCf q hq) (by omega) (by show 3 ≤ 1000; omega)⟩
  · obtain ⟨b4, o4, e6, h8⟩ := h4 (by show 0 < (partsQ c).lg (j + 1) + 1; omega)
    rw [hL] at e6
    injection e6 with e6
    injection e6 with e7 e8
    subst e7
    subst e8
    exact Okb.of h8 (hlf L hL) (by omega) (by show (partsQ c).lg (j + 1) + 1 ≤ 1000; omega)


/-- What sum.Prove hands out. -/
def outS (E n : Nat) (W : World) (e : Ending) (w' : World) : Prop := ∃ (R b2 : Nat) (a : Nat → Nat), e = .returned (.tuple #[.slice (some ⟨R, 0, none⟩) n n, .slice (some ⟨b2, 0, none⟩) 2 2, .int .i64 0]) ∧ (∀ i, i < n → w'.cell? ⟨R, i, none⟩ = some (.slice (some ⟨a i, 0, none⟩) 3 3) ∧ Okb E w' (a i) 3) ∧ Okb E w' b2 2 ∧ Below W.heap.size W w'
/-- What Open hands out. -/
def outO (E n : Nat) (v : Int) (W : World) (e : Ending) (w' : World) : Prop := ∃ (rb lb : Nat), e = .returned (.tuple #[.agg #[.slice (some ⟨rb, 0, none⟩) n n, .int .u64 v, .slice (some ⟨lb, 0, none⟩) 1 1], .int .i64 0]) ∧ Okb E w' rb n ∧ Lko E w' lb n ∧ Below W.heap.size W w'
/-- A table, a point and their copies, and the circuit's box. -/
structure LsW (w W : World) (X tb qb g1 g2 n N : Nat) (gv : Int) (cv : Value) (F G : Nat → Int) : Prop where
  st : Below w.heap.size w W
  c0 : W.cell? ⟨X, 0, none⟩ = some (.int .i64 gv)
  c1 : W.cell? ⟨X, 1, none⟩ = some cv
  t : Row W tb 0 N F
  q : Row W qb 0 n G
  t2 : PRow W (some ⟨g1, 0, none⟩) N F
  q2 : PRow W (some ⟨g2, 0, none⟩) n G
theorem LsW.next {w W W' : World} {X tb qb g1 g2 n N : Nat} {gv : Int} {cv : Value} {F G : Nat → Int} (h : LsW w W X tb qb g1 g2 n N gv cv F G) (hb : Below W.heap.size W W') (hn : 0 < n) (hN : 0 < N) : LsW w W' X tb qb g1 g2 n N gv cv F G :=
  ⟨h.st.trans (hb.mono h.st.size), (hb.cell (World.block_lt_of_cell? W _ h.c0)).trans h.c0, (hb.cell (World.block_lt_of_cell? W _ h.c1)).trans h.c1, h.t.kept hb (h.t.lt hN), h.q.kept hb (h.q.lt hn), h.t2.kept hb, h.q2.kept hb⟩

theorem six_cells (W : World) (u0 u1 u2 u3 u4 u5 : Value) (t : TypeId) : ∀ j u, [u0, u1, u2, u3, u4, u5][j]? = some u → (W.alloc (.cells #[u0, u1, u2, u3, u4, u5] t)).cell? ((⟨W.heap.size, 0, none⟩ : Addr).add j) = some u := by
  intro j u hj
  match j, hj with
  | 0, hj => simp at hj; subst hj; simp [Addr.add]
  | 1, hj => simp at hj; subst hj; simp [Addr.add]
  | 2, hj => simp at hj; subst hj; simp [Addr.add]
  | 3, hj => simp at hj; subst hj; simp [Addr.add]
  | 4, hj => simp at hj; subst hj; simp [Addr.add]
  | 5, hj => simp at hj; subst hj; simp [Addr.add]

/-- A box that was made ahead of a call. -/
theorem newbox {W w' : World} {v : Value} {t : TypeId} (hb : Below (W.alloc (.cells #[v] t)).heap.size (W.alloc (.cells #[v] t)) w') : w'.cell? ⟨W.heap.size, 0, none⟩ = some v ∧ w'.frozen? ⟨W.heap.size, 0, none⟩ = false := by
  have hl : W.heap.size < (W.alloc (.cells #[v] t)).heap.size := by simp
  exact ⟨(hb.cell (p := ⟨W.heap.size, 0, none⟩) hl).trans (by rw [World.cell?_alloc_new]; rfl), (hb.frozen (p := ⟨W.heap.size, 0, none⟩) hl).trans (by rw [World.frozen?_alloc_new])⟩
theorem keepF {W W' : World} (hb : Below W.heap.size W W') {a : Addr} {v : Value} (h : W.cell? a = some v) (hf : W.frozen? a = false) : W'.cell? a = some v ∧ W'.frozen? a = false :=
  ⟨(hb.cell (World.block_lt_of_cell? W a h)).trans h, (hb.frozen (World.block_lt_of_cell? W a h)).trans hf⟩
/-- A store where no list lay. -/
theorem put_cell {W : World} {a b : Addr} {u v : Value} (hc : W.cell? b = some (.slice none 0 0)) (h : W.cell? a = some u) (hu : u ≠ .slice none 0 0) : (W.setCell b v).cell? a = some u := by
  rw [World.cell?_setCell_other _ _ _ _ (by intro e; subst e; rw [hc] at h; cases h; exact hu rfl)]
  exact h
theorem Wrt.put {W : World} {b o c : Nat} {d : Addr} {v : Value} (h : Wrt W b o c) (hc : W.cell? d = some (.slice none 0 0)) : Wrt (W.setCell d v) b o c := fun j hj => by
  obtain ⟨⟨x, hx⟩, hf⟩ := h j hj
  exact ⟨⟨x, put_cell hc hx (fun e => by cases e)⟩, by rw [World.frozen?_setCell]; exact hf⟩
theorem HLs.put {E : Nat} {W : World} {B m : Nat} {d : Addr} {v : Value} (h : HLs E W B m) (hc : W.cell? d = some (.slice none 0 0)) : HLs E (W.setCell d v) B m := fun j hj => by
  obtain ⟨b, c, h1, h2⟩ := h j hj
  exact ⟨b, c, put_cell hc h1 (fun e => by cases e), h2.1.put hc, h2.2⟩
theorem Lkp.put {E : Nat} {W : World} {PB n : Nat} {d : Addr} {v : Value} (h : Lkp E W PB n) (hc : W.cell? d = some (.slice none 0 0)) : Lkp E (W.setCell d v) PB n := fun j hj => by
  obtain ⟨R, k, b, c, h1, h2, h3, h4, h5⟩ := h j hj
  exact ⟨R, k, b, c, put_cell hc h1 (fun e => by cases e), h2, h3.put hc, put_cell hc h4 (fun e => by cases e), h5.1.put hc, h5.2⟩

end Go.Proofs.YtnnjajmkfgnhcaaGreatDoor

/-
  Contracts of tallykeep's between, and of the function that MleCorners makes (a table's value at a point with one number turned); they make new rows and write nothing that was there.
-/
namespace Go.Proofs.YtnnjajmkfgnhcaaGreatDoor
open Go.RowKit
set_option linter.unusedVariables false

def tab4 (j : Nat) : Int := if j = 0 then 3 else if j = 1 then 5 else if j = 2 then 7 else 11
def tab2 (j : Nat) : Int := if j = 0 then 3 else 5
def pnt2 (j : Nat) : Int := if j = 0 then 1 else 0
def pnt1 (_ : Nat) : Int := 2
theorem Nums_tab4 : Nums tab4 := fun j => by unfold tab4; split; omega; split; omega; split <;> omega
theorem Nums_tab2 : Nums tab2 := fun j => by unfold tab2; split <;> omega
theorem Nums_pnt2 : Nums pnt2 := fun j => by unfold pnt2; split <;> omega
theorem Nums_pnt1 : Nums pnt1 := fun j => by unfold pnt1; omega
theorem ev_tab4 : ofK (evS (fun j => kk (tab4 j)) (fun j => kk (pnt2 j)) 2) = 7 := by kernel_rfl
theorem ev_tab2 : ofK (evS (fun j => kk (tab2 j)) (fun j => kk (pnt1 j)) 1) = 7 := by kernel_rfl
theorem row_tab4 (w : World) (t : TypeId) : Row (w.alloc (.cells #[.int .u64 3, .int .u64 5, .int .u64 7, .int .u64 11] t)) w.heap.size 0 4 tab4 := fun j hj => by
  rw [Nat.zero_add, World.cell?_alloc_new]
  match j, hj with
  | 0, _ => rfl
  | 1, _ => rfl
  | 2, _ => rfl
  | 3, _ => rfl
theorem row_tab2 (w : World) (t : TypeId) : Row (w.alloc (.cells #[.int .u64 3, .int .u64 5] t)) w.heap.size 0 2 tab2 := fun j hj => by
  rw [Nat.zero_add, World.cell?_alloc_new]
  match j, hj with
  | 0, _ => rfl
  | 1, _ => rfl
theorem row_pnt2 (w : World) (t : TypeId) : Row (w.alloc (.cells #[.int .u64 1, .int .u64 0] t)) w.heap.size 0 2 pnt2 := fun j hj => by
  rw [Nat.zero_add, World.cell?_alloc_new]
  match j, hj with
  | 0, _ => rfl
  | 1, _ => rfl
theorem row_pnt1 (w : World) (t : TypeId) : Row (w.alloc (.cells #[.int .u64 2] t)) w.heap.size 0 1 pnt1 := fun j hj => by
  rw [Nat.zero_add, World.cell?_alloc_new]
  match j, hj with
  | 0, _ => rfl
theorem new_below (w : World) (x : Obj) : Below w.heap.size w (w.alloc x) := (Below.refl _ w).alloc (Nat.le_refl _) _

set_option maxHeartbeats 2000000 in
set_option maxRecDepth 100000 in
theorem between_ok (w : World) (ht : Tab w) :
    Calls Tryz.prog 4 #[] w fun e w' => e = .returned (.bool true) ∧ Below w.heap.size w w' := by
  have HT := hid ht
  clear ht
  go_enter Tryz.func4, Tryz.ntmps4
  go_wp2_with fail
  have hb1 := new_below w (.cells #[.int .u64 3, .int .u64 5, .int .u64 7, .int .u64 11] 31)
  have hr1 := row_tab4 w 31
  have hs1 : (w.alloc (.cells #[.int .u64 3, .int .u64 5, .int .u64 7, .int .u64 11] 31)).heap.size = w.heap.size + 1 := by simp
  generalize w.alloc (.cells #[.int .u64 3, .int .u64 5, .int .u64 7, .int .u64 11] 31) = W at hb1 hr1 hs1 ⊢
  have hb2 := new_below W (.cells #[.int .u64 1, .int .u64 0] 31)
  have hr2 := row_pnt2 W 31
  rw [hs1] at hr2
  have he := eval_ok w.heap.size 0 2 4 4 2 (some ⟨w.heap.size + 1, 0, none⟩) tab4 pnt2 _ (by omega) rfl (HT.out.kept (hb1.trans (hb2.mono hb1.size)) HT.out.1) (hr1.kept hb2 (hr1.lt (by omega))) Nums_tab4 (PRow.of hr2) Nums_pnt2
  rw [ev_tab4] at he
  have HE := hid he
  have HB := hid (hb1.trans (hb2.mono hb1.size))
  clear he hb1 hb2 hr1 hr2 hs1
  refine (HE.out).mono ?_
  rintro e w1 ⟨rfl, hb⟩
  have HB1 := hid (HB.out.trans (hb.mono HB.out.size))
  clear hb HB HE
  go_wp2_with fail
  have hb1 := new_below w1 (.cells #[.int .u64 3, .int .u64 5] 31)
  have hr1 := row_tab2 w1 31
  have hs1 : (w1.alloc (.cells #[.int .u64 3, .int .u64 5] 31)).heap.size = w1.heap.size + 1 := by simp
  generalize w1.alloc (.cells #[.int .u64 3, .int .u64 5] 31) = W1 at hb1 hr1 hs1 ⊢
  have hb2 := new_below W1 (.cells #[.int .u64 2] 31)
  have hr2 := row_pnt1 W1 31
  rw [hs1] at hr2
  have hB3 := HB1.out.trans ((hb1.trans (hb2.mono hb1.size)).mono HB1.out.size)
  have he := eval_ok w1.heap.size 0 1 2 2 1 (some ⟨w1.heap.size + 1, 0, none⟩) tab2 pnt1 _ (by omega) rfl (HT.out.kept hB3 HT.out.1) (hr1.kept hb2 (hr1.lt (by omega))) Nums_tab2 (PRow.of hr2) Nums_pnt1
  rw [ev_tab2] at he
  have HE := hid he
  have HB3 := hid hB3
  clear he hb1 hb2 hr1 hr2 hs1 hB3 HB1
  refine (HE.out).mono ?_
  rintro e w2 ⟨rfl, hb⟩
  have HB4 := hid (HB3.out.trans (hb.mono HB3.out.size))
  clear hb HB3 HE
  go_wp2_with fail
  go_ret
  exact ⟨rfl, HB4.out⟩

theorem own_free {w : World} {base g n cap : Nat} {f : Nat → Int} (h : Own w base (.slice (some ⟨g, 0, none⟩) n cap) n f) : Free w g 0 n := by
  rcases h.2 with ⟨h0, _⟩ | ⟨g', cap', cur, hv, _, hh, _⟩
  · cases h0
  · simp only [Value.slice.injEq, Option.some.injEq, Addr.mk.injEq] at hv
    obtain ⟨⟨rfl, _⟩, _⟩ := hv
    intro j _
    unfold World.frozen?
    simp [hh]
theorem own_base {w : World} {base g n cap : Nat} {f : Nat → Int} (h : Own w base (.slice (some ⟨g, 0, none⟩) n cap) n f) : base ≤ g := by
  rcases h.2 with ⟨h0, _⟩ | ⟨g', cap', cur, hv, hb, _⟩
  · cases h0
  · simp only [Value.slice.injEq, Option.some.injEq, Addr.mk.injEq] at hv
    obtain ⟨⟨rfl, _⟩, _⟩ := hv
    exact hb
/-- One number of a list, turned. -/
def setF (f : Nat → Int) (i : Nat) (x : Int) (j : Nat) : Int := if j = i then x else f j
theorem Nums_set {f : Nat → Int} (hf : Nums f) (i : Nat) {x : Int} (x0 : 0 ≤ x) (x1 : x ≤ 18446744073709551615) : Nums (setF f i x) := fun j => by
  unfold setF
  split
  · exact ⟨x0, x1⟩
  · exact hf j
theorem kk_setF (f : Nat → Int) (i : Nat) (x : Int) : (fun j => kk (setF f i x j)) = updK (fun j => kk (f j)) i (kk x) := by
  funext j
  unfold setF updK
  split <;> rfl


end Go.Proofs.YtnnjajmkfgnhcaaGreatDoor

/-
  Plain: of a right circuit all numbers are small; the law's own tiny circuit; no program in it.
-/
namespace Go.Proofs.YtnnjajmkfgnhcaaGreatDoor
set_option linter.unusedVariables false

theorem pow_le16 {k : Int} (h : k ≤ 4) : 2 ^ k.toNat ≤ 16 := Nat.le_trans (Nat.pow_le_pow_right (by omega) (show k.toNat ≤ 4 by omega)) (Nat.le_refl 16)
theorem layersR_small : ∀ (ls : List LQ) (k : Int), k ≤ 4 → layersR k ls → ∀ l ∈ ls, (0 ≤ l.log ∧ l.log ≤ 4) ∧ l.gates.length ≤ 16 ∧ ∀ q ∈ l.gates, (0 ≤ q.a ∧ q.a < 100) ∧ 0 ≤ q.b ∧ q.b < 100
  | [], _, _, _ => by simp
  | x :: r, k, hk, h => by
    intro l hl
    obtain ⟨⟨hx1, hx2, hx3⟩, hr⟩ := h
    rcases List.mem_cons.1 hl with rfl | hl
    · refine ⟨hx1, by rw [hx2]; exact pow_le16 hx1.2, fun q hq => ?_⟩
      obtain ⟨⟨a0, a1⟩, b0, b1⟩ := hx3 q hq
      have := pow_le16 hk
      exact ⟨⟨a0, by omega⟩, b0, by omega⟩
    · exact layersR_small r x.log hx1.2 hr l hl
theorem right_small {c : CQ} (h : c.right) : ∀ l ∈ c.layers, (0 ≤ l.log ∧ l.log ≤ 4) ∧ l.gates.length ≤ 16 ∧ ∀ q ∈ l.gates, (0 ≤ q.a ∧ q.a < 100) ∧ 0 ≤ q.b ∧ q.b < 100 := layersR_small _ _ h.log.2 h.each
theorem right_fits {c : CQ} (h : c.right) : c.fits := by
  have hs := right_small h
  have hl := h.log
  intro x hx
  rcases List.mem_cons.1 hx with rfl | hx
  · show 0 ≤ c.log ∧ c.log < 100
    omega
  · obtain ⟨l, hl1, hl2⟩ := List.mem_flatMap.1 hx
    obtain ⟨h1, h2, h3⟩ := hs l hl1
    rcases List.mem_cons.1 hl2 with rfl | hl2
    · show 0 ≤ l.log ∧ l.log < 100
      omega
    · obtain ⟨q, hq, rfl⟩ := List.mem_map.1 hl2
      exact h3 q hq
def tinyQ : CQ := ⟨1, [⟨1, [⟨true, 0, 1⟩, ⟨false, 0, 1⟩]⟩]⟩
theorem tiny_right : tinyQ.right := by
  refine ⟨by decide, by decide, by decide, ⟨by decide, by decide, ?_⟩, trivial⟩
  intro q hq
  simp at hq
  rcases hq with rfl | rfl <;> exact ⟨by decide, by decide⟩

end Go.Proofs.YtnnjajmkfgnhcaaGreatDoor

/-
  A contract of the laws' own tiny circuit; what it makes is new.
-/
namespace Go.Proofs.YtnnjajmkfgnhcaaGreatDoor
open Go.RowKit
set_option linter.unusedVariables false
attribute [local go_sem ↓] Go.wp_at_zero Go.wp_at_succ

theorem results_cell1 {fn : Func} {p : Tmp} {ty : TypeId} (h : fn.results = #[.cell p ty]) (tmps : Array Value) (P : Program) (w : World) :
    (results fn tmps).run P w = ((asAddr (tmps.getD p undef)).run P w).andThen fun a w₁ => (loadVar ty a).run P w₁ := by
  simp only [results, h]
  simp [Sem.run_bind, Result.andThen]
theorem load_circ1 {w : World} {b : Nat} {x0 x1 : Value} (c0 : w.cell? ⟨b, 0, none⟩ = some x0) (c1 : w.cell? ⟨b, 1, none⟩ = some x1) : (loadVar 25 ⟨b, 0, none⟩).run Tryz.prog w = .ok (.agg #[x0, x1]) w := by
  go_simp
theorem results_circ1 {fn : Func} {p : Tmp} (h : fn.results = #[.cell p 25]) {tmps : Array Value} {w : World} {b : Nat} {x0 x1 : Value} (hp : tmps.getD p undef = .pointer (some ⟨b, 0, none⟩)) (c0 : w.cell? ⟨b, 0, none⟩ = some x0) (c1 : w.cell? ⟨b, 1, none⟩ = some x1) :
    (results fn tmps).run Tryz.prog w = .ok (.agg #[x0, x1]) w := by
  rw [results_cell1 h, hp]
  simp [asAddr, Result.andThen, load_circ1 c0 c1]
set_option maxHeartbeats 1000000 in
set_option maxRecDepth 100000 in
theorem tiny_any (w : World) :
    Calls Tryz.prog 29 #[] w fun e w' => ∃ (b : Nat) (A : Nat → Option Addr) (C : Nat → Nat), e = .returned (.agg #[.int .i64 1, .slice (some ⟨b, 0, none⟩) 1 1]) ∧ CRow w' (some ⟨b, 0, none⟩) tinyQ.layers A C ∧ Below w.heap.size w w' := by
  go_enter Tryz.func29, Tryz.ntmps29
  go_wp2_with fail
  refine bodyPost_ret (results_circ1 rfl rfl (by rw [World.cell?_alloc_old _ _ _ (by simp <;> omega), World.cell?_alloc_old _ _ _ (by simp <;> omega), World.cell?_alloc_new]; rfl) (by rw [World.cell?_alloc_old _ _ _ (by simp <;> omega), World.cell?_alloc_old _ _ _ (by simp <;> omega), World.cell?_alloc_new]; rfl)) rfl ?_
  refine ⟨w.heap.size + 1 + 1, fun _ => some ⟨w.heap.size + 1, 0, none⟩, fun _ => 2, rfl, ?_, (((Below.refl w.heap.size w).alloc (Nat.le_refl _) _).alloc (by simp) _).alloc (by simp; omega) _⟩
  generalize hO1 : Obj.cells #[Value.int .i64 1, .slice (some ⟨w.heap.size + 1 + 1, 0, none⟩) 1 1] 25 = o1
  have s1 : (w.alloc o1).heap.size = w.heap.size + 1 := by simp
  generalize w.alloc o1 = w1 at s1 ⊢
  generalize hO2 : Obj.cells #[Value.bool true, .int .i64 0, .int .i64 1, .bool false, .int .i64 0, .int .i64 1] 93 = o2
  have s2 : (w1.alloc o2).heap.size = w.heap.size + 1 + 1 := by simp [s1]
  have g : ∀ j, (w1.alloc o2).cell? ⟨w.heap.size + 1, j, none⟩ = (#[Value.bool true, .int .i64 0, .int .i64 1, .bool false, .int .i64 0, .int .i64 1] : Array Value)[j]? := fun j => by
    rw [← hO2, ← s1, World.cell?_alloc_new]
  generalize w1.alloc o2 = w2 at s2 g ⊢
  have hl : ∀ j, (w2.alloc (Obj.cells #[Value.int .i64 1, .slice (some ⟨w.heap.size + 1, 0, none⟩) 2 2] 89)).cell? ⟨w.heap.size + 1 + 1, j, none⟩ = (#[Value.int .i64 1, .slice (some ⟨w.heap.size + 1, 0, none⟩) 2 2] : Array Value)[j]? := fun j => by
    rw [← s2, World.cell?_alloc_new]
  have g' : ∀ j o, (w2.alloc o).cell? ⟨w.heap.size + 1, j, none⟩ = (#[Value.bool true, .int .i64 0, .int .i64 1, .bool false, .int .i64 0, .int .i64 1] : Array Value)[j]? := fun j o => by
    rw [World.cell?_alloc_old _ _ _ (by show w.heap.size + 1 ≠ w2.heap.size; omega)]; exact g j
  intro _
  refine ⟨_, _, rfl, fun i l hi => ?_⟩
  match i, hi with
  | 0, hi =>
    obtain rfl : (⟨1, [⟨true, 0, 1⟩, ⟨false, 0, 1⟩]⟩ : LQ) = l := by simpa [tinyQ] using hi
    refine ⟨(hl 0).trans rfl, (hl 1).trans rfl, fun _ => ⟨_, _, rfl, fun j q hq => ?_⟩, Nat.le_refl 2⟩
    match j, hq with
    | 0, hq =>
      obtain rfl : (⟨true, 0, 1⟩ : GQ) = q := by simpa using hq
      exact ⟨(g' 0 _).trans rfl, (g' 1 _).trans rfl, (g' 2 _).trans rfl⟩
    | 1, hq =>
      obtain rfl : (⟨false, 0, 1⟩ : GQ) = q := by simpa using hq
      exact ⟨(g' 3 _).trans rfl, (g' 4 _).trans rfl, (g' 5 _).trans rfl⟩
    | j + 2, hq => simp at hq
  | i + 1, hi => simp [tinyQ] at hi

end Go.Proofs.YtnnjajmkfgnhcaaGreatDoor

/-
  The right proof holds for just the outputs that have the circuit's value at the point that was drawn; contracts of the laws' own small and held.
-/
namespace Go.Proofs.YtnnjajmkfgnhcaaGreatDoor
open Go.RowKit
set_option linter.unusedVariables false
attribute [local go_sem ↓] Go.wp_at_zero Go.wp_at_succ

theorem right_iff {c : CQ} (hc : c.right) (f D fo : Nat → Int) :
    (partsQ c).holds D (rightP c f D).told (ofK (evS (fun j => kk (fo j)) (fun j => kk (D j)) ((partsQ c).lg 0))) (fun j => kk (f j)) ↔ evS (fun j => kk (fo j)) (fun j => kk (D j)) ((partsQ c).lg 0) = evS (fun j => kk (valsQ c f c.layers.length j)) (fun j => kk (D j)) ((partsQ c).lg 0) := by
  have n1 : 0 < (partsQ c).n := List.length_pos_iff.2 hc.some
  rw [rightP_told, Parts.right_holds (partsQ c) D _ _ (parts_fits hc) (parts_run hc f) (fun j => by have := parts_lg hc j; omega) n1]
  have h1 : (partsQ c).tru (valsK c f) D 0 = evS (fun j => kk (valsQ c f c.layers.length j)) (fun j => kk (D j)) ((partsQ c).lg 0) := rfl
  have h2 : (partsQ c).tru (valsK c f) D (partsQ c).n = evS (fun j => kk (f j)) ((partsQ c).z D (partsQ c).n) ((partsQ c).lg (partsQ c).n) := by
    refine evS_congr _ (fun b _ => ?_) (fun _ _ => rfl)
    show kk (valsQ c f (c.layers.length - c.layers.length) b) = _
    rw [Nat.sub_self]
    show kk (nrm (f b)) = kk (f b)
    exact kk_nrm _
  rw [h1, h2]
  constructor
  · rintro ⟨h, _⟩
    have := congrArg kk h
    rwa [kk_ofK, kk_ofK] at this
  · intro h
    exact ⟨by rw [h], rfl⟩
/-- A list of two numbers. -/
def pr (a b : Int) (j : Nat) : Int := if j = 0 then a else b
theorem Nums_pr {a b : Int} (h0 : 0 ≤ a) (h1 : a ≤ 18446744073709551615) (h2 : 0 ≤ b) (h3 : b ≤ 18446744073709551615) : Nums (pr a b) := fun j => by
  unfold pr
  split <;> omega
def dr4 (j : Nat) : Int := if j = 0 then 5 else if j = 1 then 6 else if j = 2 then 7 else 8
theorem Nums_dr4 : Nums dr4 := fun j => by
  unfold dr4
  repeat' split
  all_goals omega
theorem tiny_need : needQ tinyQ = 4 := by decide
theorem tiny_lg : (partsQ tinyQ).lg 0 = 1 := by decide
theorem tiny_ends : endsQ tinyQ 2 2 := by unfold endsQ; decide
theorem ev_one (f g : Nat → K) : evS f g 1 = f 0 + g 0 * (f 1 - f 0) := by
  rw [show (1 : Nat) = 0 + 1 from rfl, evS_fold, evS_zero]; rfl
theorem tiny_yes : (partsQ tinyQ).holds dr4 (rightP tinyQ (pr 3 4) dr4).told (ofK (evS (fun j => kk (pr 12 7 j)) (fun j => kk (dr4 j)) ((partsQ tinyQ).lg 0))) (fun j => kk (pr 3 4 j)) := by
  rw [right_iff tiny_right, tiny_lg, ev_one, ev_one]
  kernel_rfl
theorem tiny_no : ¬ (partsQ tinyQ).holds dr4 (rightP tinyQ (pr 3 4) dr4).told (ofK (evS (fun j => kk (pr 12 8 j)) (fun j => kk (dr4 j)) ((partsQ tinyQ).lg 0))) (fun j => kk (pr 3 4 j)) := by
  rw [right_iff tiny_right, tiny_lg, ev_one, ev_one]
  intro h
  have h2 := congrArg Fin.val h
  revert h2
  decide
set_option maxHeartbeats 2000000 in
set_option maxRecDepth 100000 in
theorem small_any (c : CQ) (g : Int) (ao : Option Addr) (n cap : Nat) (A : Nat → Option Addr) (C : Nat → Nat) (w : World) (hn63 : n ≤ maxLen) (hg : c.log = g) (hn : c.layers.length = n) (hr : CRow w ao c.layers A C) :
    Calls Tryz.prog 21 #[.agg #[.int .i64 g, .slice ao n cap]] w fun e w' => ∃ r : Bool, e = .returned (.bool r) ∧ (r = true → c.right) ∧ Below w.heap.size w w' := by
  have HS0 := hid (StW.start w g (.slice ao n cap) 25)
  have HC := hid (fun W (h : Below w.heap.size w W) => rcirc_any c g ao n cap A C W hg hn (hr.kept h))
  have HR := hid hr
  have HN := hid hn
  have n63 : (n : Int) ≤ 9223372036854775807 := by have : maxLen ≤ 9223372036854775807 := by decide
                                                   omega
  clear hg hn hr hn63
  go_enter Tryz.func21, Tryz.ntmps21
  go_wp2_with fail
  obtain ⟨B, hB⟩ : ∃ B, w.heap.size = B := ⟨_, rfl⟩
  rw [hB] at HS0
  rw [hB]
  clear hB
  generalize w.alloc (.cells #[.int .i64 g, .slice ao n cap] 25) = W1 at HS0 ⊢
  go_loopg [8] n (fun q i wr => ∃ t : Nat, t ≤ n ∧ q = n - t ∧ i = .int .i64 (t : Int) ∧ Hid (StW w wr B g (.slice ao n cap)))
  case atStart => exact ⟨0, by omega, rfl, rfl, HS0⟩
  case round =>
    clear HS0
    obtain ⟨t, htn, rfl, rfl, HS⟩ := hrel
    by_cases htl : t < n
    · obtain ⟨l, hl⟩ : ∃ l, c.layers[t]? = some l := ⟨c.layers[t]'(by rw [HN.out]; exact htl), by simp⟩
      obtain ⟨b, off, rfl, hcc⟩ := HR.out.kept HS.out.bel (by intro e; have := HN.out; rw [e] at this; simp at this; omega)
      obtain ⟨x0, x1, _, _⟩ := hcc t l hl
      rw [Nat.mul_comm 2 t] at x0 x1
      obtain ⟨lg, hlg⟩ : ∃ x, l.log = x := ⟨_, rfl⟩
      rw [hlg] at x0
      have t0 : (0 : Int) ≤ (t : Int) := by omega
      have t1 : (t : Int) < (n : Int) := by omega
      have HAL := hid (fun v => HS.out.next ((Below.refl wr.heap.size wr).alloc (Nat.le_refl _) (.cells #[.int .i64 lg, v] 89)))
      clear hcc hl hlg
      by_cases h2 : (2 : Int) < lg
      · go_wp2_with fail
        go_ret
        exact ⟨false, rfl, fun h => absurd h Bool.false_ne_true, (HAL.out _).bel⟩
      · go_wp2_with fail
        go_roundg (n - (t + 1))
        case measure => go_light; omega
        case rel => exact ⟨t + 1, by omega, rfl, by go_num, hid (HAL.out _)⟩
    · have t1 : ¬ ((t : Int) < (n : Int)) := by omega
      obtain ⟨z0, z1, zl⟩ := HS.out.box
      go_wp2_with fail
      refine (HC.out _ HS.out.bel).mono ?_
      rintro e w1 ⟨y, rfl, hy, hb⟩
      have HS1 := hid (HS.out.next hb)
      have HY := hid hy
      clear hb hy z0 z1 zl HS
      obtain ⟨z0, z1, zl⟩ := HS1.out.box
      by_cases hy0 : y = 0
      · subst hy0
        have HRT := hid (checkE_zero.1 HY.out)
        go_wp2_with fail
        go_ret
        exact ⟨_, rfl, fun _ => HRT.out, HS1.out.bel⟩
      · have e1 : (y == 0) = false := beq_eq_false_iff_ne.2 hy0
        go_wp2_with fail
        go_ret
        exact ⟨false, rfl, fun h => absurd h Bool.false_ne_true, HS1.out.bel⟩
/-- Below a world that grew, step by step. -/
theorem bel_alloc {X Y : World} (o : Obj) (h : Below X.heap.size X Y) : Below X.heap.size X (Y.alloc o) := h.alloc h.size o
theorem bel_trans {X Y Z : World} (hz : Below Y.heap.size Y Z) (h : Below X.heap.size X Y) : Below X.heap.size X Z := h.trans (hz.mono h.size)
theorem bel_drew {X Y : World} (h : Below X.heap.size X Y) : Below X.heap.size X Y.drew := h.drew
theorem row_pair (w : World) (x y : Int) (t : TypeId) : Row (w.alloc (.cells #[.int .u64 x, .int .u64 y] t)) w.heap.size 0 2 (pr x y) := fun j hj => by
  rw [Nat.zero_add, World.cell?_alloc_new]
  match j, hj with
  | 0, _ => rfl
  | 1, _ => rfl
theorem row_new2 {w : World} {n : Nat} {x y : Int} {t : TypeId} (h : n = w.heap.size) : Row (w.alloc (.cells #[.int .u64 x, .int .u64 y] t)) n 0 2 (pr x y) := by
  subst h
  exact row_pair w x y t
theorem row_old2 {w : World} {n : Nat} {f : Nat → Int} (o : Obj) (h : Row w n 0 2 f) : Row (w.alloc o) n 0 2 f := h.kept (bel_alloc o (Below.refl _ w)) (h.lt (by omega))
theorem row_bel2 {Y Z : World} {n : Nat} {f : Nat → Int} (hb : Below Y.heap.size Y Z) (h : Row Y n 0 2 f) : Row Z n 0 2 f := h.kept hb (h.lt (by omega))
theorem crow_old {w : World} {ao : Option Addr} {ls : List LQ} {A : Nat → Option Addr} {C : Nat → Nat} (o : Obj) (h : CRow w ao ls A C) : CRow (w.alloc o) ao ls A C := h.kept (bel_alloc o (Below.refl _ w))
theorem keep_cell {W W' : World} {a : Addr} {v : Value} (h : W.cell? a = some v) (hb : Below W.heap.size W W') : W'.cell? a = some v := (hb.cell (World.block_lt_of_cell? W _ h)).trans h
theorem row_four (w : World) (t : TypeId) : Row (w.alloc (.cells #[.int .u64 5, .int .u64 6, .int .u64 7, .int .u64 8] t)) w.heap.size 0 4 dr4 := fun j hj => by
  rw [Nat.zero_add, World.cell?_alloc_new]
  match j, hj with
  | 0, _ => rfl
  | 1, _ => rfl
  | 2, _ => rfl
  | 3, _ => rfl
set_option maxHeartbeats 8000000 in
set_option maxRecDepth 100000 in
theorem held_any (w : World) (ht : Tab w) :
    Calls Tryz.prog 6 #[] w fun e w' => e = .returned (.bool true) ∧ Below w.heap.size w w' := by
  have HT := hid ht
  clear ht
  go_enter Tryz.func6, Tryz.ntmps6
  go_wp2_with fail
  refine (tiny_any w).mono ?_
  rintro e w1 ⟨b1, A1, C1, rfl, hc1, hb1⟩
  go_wp2_with fail
  refine (draws_ok tinyQ 1 b1 0 1 1 A1 C1 w1 rfl rfl hc1 tiny_right).mono ?_
  rintro e w2 ⟨rfl, hb2⟩
  have HB2 := hid (bel_trans hb2 hb1)
  clear hc1 hb1 hb2
  go_wp2_with fail
  rw [tiny_need]
  refine (tiny_any _).mono ?_
  rintro e w3 ⟨b3, A3, C3, rfl, hc3, hb3⟩
  have HD3 : Hid (Row w3 w2.heap.size 0 4 dr4 ∧ w2.heap.size < w3.heap.size) := hid (by
    have h := (row_four w2 31).kept hb3 (by simp)
    exact ⟨h, h.lt (by omega)⟩)
  have HB3 := hid (bel_trans hb3 (bel_alloc _ HB2.out))
  have HC3 := hid hc3
  clear hc3 hb3 HB2
  obtain ⟨BD, hBD⟩ : ∃ x, w2.heap.size = x := ⟨_, rfl⟩
  rw [hBD] at HD3
  rw [hBD]
  clear hBD
  go_wp2_with fail
  have HPV : Hid (Calls Tryz.prog 25 #[.agg #[.int .i64 1, .slice (some ⟨b3, 0, none⟩) 1 1], .slice (some ⟨w3.heap.size, 0, none⟩) 2 2, .slice (some ⟨BD, 0, none⟩) 4 4] (w3.alloc (.cells #[.int .u64 3, .int .u64 4] 31)) fun e w' => proveOut tinyQ (pr 3 4) dr4 1 (w3.alloc (.cells #[.int .u64 3, .int .u64 4] 31)) e w') := hid (by
    have hal := (Below.refl w3.heap.size w3).alloc (Nat.le_refl _) (.cells #[.int .u64 3, .int .u64 4] 31)
    have hbw := bel_trans hal HB3.out
    exact pv_ok tinyQ 1 b3 0 1 1 A3 C3 w3.heap.size 0 2 2 (pr 3 4) BD 0 4 4 dr4 _ rfl rfl (HC3.out.kept hal) tiny_right (shl_pow (k := 1) (by omega)) (by decide) (row_pair w3 3 4 _) (Nums_pr (by omega) (by omega) (by omega) (by omega)) (HD3.out.1.kept hal HD3.out.2) Nums_dr4 tiny_need.symm (by omega) (by decide) (HT.out.kept hbw HT.out.1))
  refine (HPV.out).mono ?_
  rintro e w4 ⟨PB, m, rfl, hpf, hlow, hb4⟩
  have HB4 := hid (bel_trans hb4 (bel_alloc _ HB3.out))
  have HD4 : Hid (Row w4 BD 0 4 dr4 ∧ BD < w4.heap.size) := hid (by
    have hal := bel_trans hb4 ((Below.refl w3.heap.size w3).alloc (Nat.le_refl _) (.cells #[.int .u64 3, .int .u64 4] 31))
    exact ⟨HD3.out.1.kept hal HD3.out.2, Nat.lt_of_lt_of_le HD3.out.2 hal.size⟩)
  have HPF := hid hpf
  clear hpf hlow hb4 HB3 HD3 HC3 HPV
  go_wp2_with fail
  have hal := (Below.refl w4.heap.size w4).alloc (Nat.le_refl _) (.cells #[.slice (some ⟨PB, 0, none⟩) 1 1] 63)
  have HB5 := hid (bel_trans hal HB4.out)
  have HD5 : Hid (Row (w4.alloc (.cells #[.slice (some ⟨PB, 0, none⟩) 1 1] 63)) BD 0 4 dr4 ∧ BD < (w4.alloc (.cells #[.slice (some ⟨PB, 0, none⟩) 1 1] 63)).heap.size) := hid ⟨HD4.out.1.kept hal HD4.out.2, Nat.lt_of_lt_of_le HD4.out.2 hal.size⟩
  have HP5 := hid (HPF.out.kept hal)
  have HQ5 : Hid ((w4.alloc (.cells #[.slice (some ⟨PB, 0, none⟩) 1 1] 63)).cell? ⟨w4.heap.size, 0, none⟩ = some (.slice (some ⟨PB, 0, none⟩) 1 1)) := hid (by rw [World.cell?_alloc_new]; rfl)
  obtain ⟨Q, hQ⟩ : ∃ x, w4.heap.size = x := ⟨_, rfl⟩
  rw [hQ] at HQ5
  rw [hQ]
  clear hQ hal HB4 HD4 HPF
  generalize w4.alloc (.cells #[.slice (some ⟨PB, 0, none⟩) 1 1] 63) = W5 at HB5 HD5 HP5 HQ5 ⊢
  have HV : Hid (∀ (q : Int) (r : Bool) (W' : World) (x1 x2 bT : Nat) (A : Nat → Option Addr) (C : Nat → Nat), (q = 7 ∧ r = true ∨ q = 8 ∧ r = false) → CRow W' (some ⟨bT, 0, none⟩) tinyQ.layers A C → Row W' x1 0 2 (pr 3 4) → Row W' x2 0 2 (pr 12 q) → Below W5.heap.size W5 W' → Calls Tryz.prog 30 #[.agg #[.int .i64 1, .slice (some ⟨bT, 0, none⟩) 1 1], .slice (some ⟨x1, 0, none⟩) 2 2, .slice (some ⟨x2, 0, none⟩) 2 2, .agg #[.slice (some ⟨PB, 0, none⟩) 1 1], .slice (some ⟨BD, 0, none⟩) 4 4] W' fun e w'' => e = .returned (.tuple #[.bool r, .int .i64 0]) ∧ Below W5.heap.size W5 w'') := hid (fun q r W' x1 x2 bT A C hq hcr h1 h2 hb => by
    have hq2 : 0 ≤ q ∧ q ≤ 18446744073709551615 := by rcases hq with ⟨h, _⟩ | ⟨h, _⟩ <;> omega
    refine (vf_ok tinyQ 1 bT 0 1 1 A C x1 0 2 2 x2 0 2 2 (pr 3 4) (pr 12 q) (some ⟨PB, 0, none⟩) 1 1 (rightP tinyQ (pr 3 4) dr4) m BD 0 4 4 dr4 W' rfl rfl hcr tiny_right rfl (HP5.out.kept hb) (rightP_nums _ _ _) (rightP_shaped _ _ _) tiny_ends h1 (Nums_pr (by omega) (by omega) (by omega) (by omega)) h2 (Nums_pr (by omega) (by omega) hq2.1 hq2.2) (HD5.out.1.kept hb HD5.out.2) Nums_dr4 tiny_need.symm (by omega) (by decide) (HT.out.kept (bel_trans hb HB5.out) HT.out.1)).mono ?_
    rintro e w'' ⟨r', rfl, hr', hb'⟩
    refine ⟨?_, bel_trans hb' hb⟩
    rcases hq with ⟨rfl, rfl⟩ | ⟨rfl, rfl⟩
    · rw [hr'.2 tiny_yes]
    · cases r' with
      | false => rfl
      | true => exact absurd (hr'.1 rfl) tiny_no)
  have hq := HQ5.out
  have HBS := hid (Below.refl W5.heap.size W5)
  clear HD5 HP5 HQ5
  go_cut [6, 7] (fun a6 a7 wx => a6 = .bool true ∧ a7 = .int .i64 0 ∧ Hid (Below W5.heap.size W5 wx))
  case first =>
    go_region_held3 (fun W => W.cell? ⟨Q, 0, none⟩ = some (.slice (some ⟨PB, 0, none⟩) 1 1)) (first | assumption | (refine keep_cell hq ?_; repeat (first | exact HBS.out | exact hbV | apply bel_alloc | refine bel_trans hbT ?_ | apply bel_drew))) (first
      | (go_at_call 29; refine (tiny_any _).mono ?_; rintro e wT ⟨bT, AT, CT, rfl, hcT, hbT⟩)
      | (go_at_call 30; refine (HV.out 7 true _ _ _ _ AT CT (.inl ⟨rfl, rfl⟩) (by repeat (first | exact hcT | apply crow_old)) (by repeat (first | exact row_new2 (by simp) | apply row_old2 | refine row_bel2 hbT ?_)) (by repeat (first | exact row_new2 (by simp) | apply row_old2 | refine row_bel2 hbT ?_)) (by repeat (first | exact HBS.out | apply bel_alloc | refine bel_trans hbT ?_ | apply bel_drew))).mono ?_; rintro e wV ⟨rfl, hbV⟩))
    all_goals (go_wp2_with fail)
    all_goals go_meet
    all_goals exact ⟨rfl, rfl, hid hbV⟩
  case rest =>
    clear HBS
    obtain ⟨rfl, rfl, HBS⟩ := hcut
    go_wp2_with fail
    go_cut [8, 9] (fun a8 a9 wx => a8 = .bool false ∧ a9 = .int .i64 0 ∧ Hid (Below W5.heap.size W5 wx))
    case first =>
      go_region_held3 (fun W => W.cell? ⟨Q, 0, none⟩ = some (.slice (some ⟨PB, 0, none⟩) 1 1)) (first | assumption | (refine keep_cell hq ?_; repeat (first | exact HBS.out | exact hbV | apply bel_alloc | refine bel_trans hbT ?_ | apply bel_drew))) (first
        | (go_at_call 29; refine (tiny_any _).mono ?_; rintro e wT ⟨bT, AT, CT, rfl, hcT, hbT⟩)
        | (go_at_call 30; refine (HV.out 8 false _ _ _ _ AT CT (.inr ⟨rfl, rfl⟩) (by repeat (first | exact hcT | apply crow_old)) (by repeat (first | exact row_new2 (by simp) | apply row_old2 | refine row_bel2 hbT ?_)) (by repeat (first | exact row_new2 (by simp) | apply row_old2 | refine row_bel2 hbT ?_)) (by repeat (first | exact HBS.out | apply bel_alloc | refine bel_trans hbT ?_ | apply bel_drew))).mono ?_; rintro e wV ⟨rfl, hbV⟩))
      all_goals (go_wp2_with fail)
      all_goals go_meet
      all_goals exact ⟨rfl, rfl, hid hbV⟩
    case rest =>
      clear HBS
      obtain ⟨rfl, rfl, HBS⟩ := hcut
      go_wp2_with fail
      go_ret
      exact ⟨rfl, bel_trans HBS.out HB5.out⟩

end Go.Proofs.YtnnjajmkfgnhcaaGreatDoor

/-
  A contract of tallyref's CircuitText, for right circuits; it makes new blocks and writes nothing that was there.
-/
namespace Go.Proofs.YtnnjajmkfgnhcaaGreatDoor
open Go.RowKit
set_option linter.unusedVariables false
attribute [local go_sem ↓] Go.wp_at_zero Go.wp_at_succ

set_option maxHeartbeats 1000000 in
set_option maxRecDepth 100000 in
theorem rtext_any (c : CQ) (g : Int) (b off n cap : Nat) (A : Nat → Option Addr) (C : Nat → Nat) (w : World) (hg : c.log = g) (hn : c.layers.length = n) (hc : c.right) (hr : CRow w (some ⟨b, off, none⟩) c.layers A C) :
    Calls Tryz.prog 22 #[.agg #[.int .i64 g, .slice (some ⟨b, off, none⟩) n cap]] w fun e w' => ∃ t : ByteArray, e = .returned (.string t) ∧ t.data.toList = printQ c ∧ Below w.heap.size w w' := by
  have g0 : 0 ≤ g := by have := hc.log; omega
  have g1 : g < 100 := by have := hc.log; omega
  have n4 : n ≤ 4 := by have := hc.few; omega
  have gs := digB_size g0 g1
  have HG := hid hg
  have HN := hid hn
  have HRT := hid hc
  have HR := hid hr
  clear hg hn hc hr
  go_enter Tryz.func22, Tryz.ntmps22
  go_wp2_with (go_at_call 46; refine (itoa_at _ _ (by omega) (by omega)).mono ?_; rintro e w' ⟨rfl, hw⟩; obtain rfl := hw.symm)
  have HW0 := hid ((Below.refl w.heap.size w).alloc (Nat.le_refl _) (.cells #[.int .i64 g, .slice (some ⟨b, off, none⟩) n cap] 25))
  have HX0 := hid (Box2.new w (.int .i64 g) (.slice (some ⟨b, off, none⟩) n cap) 25)
  obtain ⟨B, hB⟩ : ∃ B, w.heap.size = B := ⟨_, rfl⟩
  rw [hB] at HX0 HW0 ⊢
  have HBE := hid hB
  clear hB
  generalize w.alloc (.cells #[.int .i64 g, .slice (some ⟨b, off, none⟩) n cap] 25) = W0 at HX0 HW0 ⊢
  have hT0 : (⟨#[105, 110, 112, 117, 116, 115, 32]⟩ ++ digB g ++ ⟨#[10]⟩ : ByteArray).data.toList = txtQ c 0 := by rw [data_cat, data_cat, digB_data, txtQ_zero, HG.out]; rfl
  have hS0 : (⟨#[105, 110, 112, 117, 116, 115, 32]⟩ ++ digB g ++ ⟨#[10]⟩ : ByteArray).size ≤ 100 := by
    simp only [ByteArray.size_append]
    have e1 : (ByteArray.mk #[105, 110, 112, 117, 116, 115, 32]).size = 7 := rfl
    have e2 : (ByteArray.mk #[10]).size = 1 := rfl
    omega
  have HT0 := hid hT0
  clear hT0
  generalize (⟨#[105, 110, 112, 117, 116, 115, 32]⟩ ++ digB g ++ ⟨#[10]⟩ : ByteArray) = T0 at HT0 hS0 ⊢
  go_loopg [4, 5] n (fun q s i wr => ∃ (k : Nat) (T : ByteArray), k ≤ n ∧ q = n - k ∧ s = .string T ∧ i = .int .i64 (k : Int) ∧ Hid (Below B w wr) ∧ Hid (Box2 wr B (.int .i64 g) (.slice (some ⟨b, off, none⟩) n cap)) ∧ Hid (T.data.toList = txtQ c k) ∧ T.size ≤ 100 + 1000 * k)
  case atStart => exact ⟨0, T0, by omega, rfl, rfl, rfl, HW0, HX0, HT0, by omega⟩
  case round =>
    clear HW0 HX0 HT0 hS0
    obtain ⟨k, T, hk, rfl, rfl, rfl, HB, HX, HT, tsz⟩ := hrel
    have HBw : Hid (Below w.heap.size w wr) := hid (by rw [HBE.out]; exact HB.out)
    obtain ⟨x0, x1, xl⟩ := HX.out
    by_cases hlt : k < n
    · obtain ⟨l, hl⟩ : ∃ l, c.layers[k]? = some l := ⟨c.layers[k]'(by rw [HN.out]; exact hlt), by simp⟩
      obtain ⟨b', off', eb, hcell⟩ := HR.out.kept HBw.out (by intro e; have := HN.out; rw [e] at this; simp at this; omega)
      cases eb
      obtain ⟨y0, y1, y2, y3⟩ := hcell k l hl
      have hlr := HRT.out.layer k l hl
      have mr := (lenQ_rng HRT.out (k + 1) (by rw [HN.out]; omega)).2
      rw [← lenQ_layer HRT.out hl] at mr
      have nr := (lenQ_rng HRT.out k (by rw [HN.out]; omega)).2
      rw [Nat.mul_comm 2 k] at y0 y1
      obtain ⟨lg, hlg⟩ : ∃ x, l.log = x := ⟨_, rfl⟩
      obtain ⟨m, hm⟩ : ∃ x, l.gates.length = x := ⟨_, rfl⟩
      obtain ⟨ga, hga⟩ : ∃ x, A k = x := ⟨_, rfl⟩
      obtain ⟨gc, hgc⟩ : ∃ x, C k = x := ⟨_, rfl⟩
      have hlgr := hlr.1
      rw [hlg] at y0 hlgr
      rw [hm, hga, hgc] at y1
      rw [hm] at mr
      obtain ⟨l0, l1⟩ := hlgr
      have ls := digB_size l0 (by omega)
      have HGR : Hid (GRow w ga l.gates) := hid (by obtain ⟨_, _, e, h⟩ := HR.out (by intro e; have := HN.out; rw [e] at this; simp at this; omega); have := (h k l hl).2.2.1; rw [hga] at this; exact this)
      have yb : b < w.heap.size := by obtain ⟨_, _, e, h⟩ := HR.out (by intro e; have := HN.out; rw [e] at this; simp at this; omega); cases e; exact World.block_lt_of_cell? w _ (h k l hl).1
      have HY1 := hid (And.intro y1 yb)
      have HOK : Hid (∀ q ∈ l.gates, (0 ≤ q.a ∧ q.a < 100) ∧ 0 ≤ q.b ∧ q.b < 100) := hid fun q hq => by
        obtain ⟨⟨p1, p2⟩, p3, p4⟩ := hlr.2.2 q hq
        have e1 : ((2 ^ (belowQ c k).toNat : Nat) : Int) ≤ 16 := by have := nr; unfold lenQ at this; omega
        omega
      have HL := hid hl
      have HLG := hid hlg
      have HM := hid hm
      clear hcell y2 y3 hl hlg hm hga hgc hlr nr yb
      have k0 : (0 : Int) ≤ (k : Int) := by omega
      have k1 : (k : Int) < (n : Int) := by omega
      go_wp2_with (go_at_call 46; refine (itoa_at _ _ (by omega) (by omega)).mono ?_; rintro e w' ⟨rfl, hw⟩; obtain rfl := hw.symm)
      have hT1 : (T ++ (⟨#[108, 97, 121, 101, 114, 32]⟩ ++ digB lg ++ ⟨#[10]⟩) : ByteArray).data.toList = txtQ c k ++ txtL l 0 := by rw [data_cat, data_cat, data_cat, digB_data, txtL_zero, HT.out, HLG.out]; rfl
      have hS1 : (T ++ (⟨#[108, 97, 121, 101, 114, 32]⟩ ++ digB lg ++ ⟨#[10]⟩) : ByteArray).size ≤ 120 + 1000 * k := by
        simp only [ByteArray.size_append]
        have e1 : (ByteArray.mk #[108, 97, 121, 101, 114, 32]).size = 6 := rfl
        have e2 : (ByteArray.mk #[10]).size = 1 := rfl
        omega
      have HT1 := hid hT1
      clear hT1 HT tsz
      generalize (T ++ (⟨#[108, 97, 121, 101, 114, 32]⟩ ++ digB lg ++ ⟨#[10]⟩) : ByteArray) = T1 at HT1 hS1 ⊢
      obtain ⟨wo, hwo⟩ : ∃ x, x = wr := ⟨wr, rfl⟩
      rw [← hwo] at HB HBw HX x0 x1 xl y0 y1 HY1 ⊢
      clear hwo x0 x1 xl y0 y1
      go_loopg [4, 6] m (fun q s i wx => ∃ (t : Nat) (T : ByteArray), t ≤ m ∧ q = m - t ∧ s = .string T ∧ i = .int .i64 (t : Int) ∧ Hid (Below wo.heap.size wo wx) ∧ Hid (T.data.toList = txtQ c k ++ txtL l t) ∧ T.size ≤ 120 + 1000 * k + 20 * t)
      case atStart => exact ⟨0, T1, by omega, rfl, rfl, rfl, hid (Below.refl _ _), HT1, by omega⟩
      case round =>
        clear HT1 hS1
        obtain ⟨t, T, ht, rfl, rfl, rfl, HB2, HT, tsz⟩ := hrel
        have HBw2 := hid (HBw.out.trans (HB2.out.mono HBw.out.size))
        obtain ⟨x0, x1, xl⟩ := HX.out.kept HB2.out
        have y1 : wr.cell? ⟨b, off + k * 2 + 1, none⟩ = some (.slice ga m gc) := (HB2.out.cell (Nat.lt_of_lt_of_le HY1.out.2 HBw.out.size)).trans HY1.out.1
        by_cases htl : t < m
        · obtain ⟨x, hx⟩ : ∃ x, l.gates[t]? = some x := ⟨l.gates[t]'(by rw [HM.out]; exact htl), by simp⟩
          obtain ⟨gb, go, rfl, hgc⟩ := HGR.out.kept HBw2.out (by intro e; have := HM.out; rw [e] at this; simp at this; omega)
          obtain ⟨q0, q1, q2⟩ := hgc t x hx
          obtain ⟨⟨a0, a1⟩, b0, b1⟩ := HOK.out x (List.mem_of_getElem? hx)
          rw [Nat.mul_comm 3 t] at q0 q1 q2
          obtain ⟨xm, hxm⟩ : ∃ v, x.mul = v := ⟨_, rfl⟩
          obtain ⟨xa, hxa⟩ : ∃ v, x.a = v := ⟨_, rfl⟩
          obtain ⟨xb, hxb⟩ : ∃ v, x.b = v := ⟨_, rfl⟩
          rw [hxm] at q0
          rw [hxa] at q1 a0 a1
          rw [hxb] at q2 b0 b1
          have HXX := hid (And.intro hx (And.intro hxm (And.intro hxa hxb)))
          have asz := digB_size a0 a1
          have bsz := digB_size b0 b1
          clear hgc hx hxm hxa hxb
          have t0 : (0 : Int) ≤ (t : Int) := by omega
          have t1 : (t : Int) < (m : Int) := by omega
          rcases (by cases xm; exact .inr rfl; exact .inl rfl : xm = true ∨ xm = false) with hxm | hxm
          · subst hxm
            have hal := (Below.refl wr.heap.size wr).alloc (Nat.le_refl _) (.cells #[.bool true, .int .i64 xa, .int .i64 xb] 93)
            have HB3 := hid (HB2.out.trans (hal.mono HB2.out.size))
            clear hal
            go_wp2_with fail
            have s1 := fun w => run_string_add_sum (P := Tryz.prog) w (digB xa) ⟨#[32]⟩ (by have e3 : (ByteArray.mk #[32]).size = 1 := rfl; omega)
            have s2 := fun w => run_string_add_sum (P := Tryz.prog) w (digB xa ++ ⟨#[32]⟩) (digB xb) (by rw [ByteArray.size_append]; have e3 : (ByteArray.mk #[32]).size = 1 := rfl; omega)
            have s3 := fun w => run_string_add_sum (P := Tryz.prog) w (digB xa ++ ⟨#[32]⟩ ++ digB xb) ⟨#[10]⟩ (by simp only [ByteArray.size_append]; have e3 : (ByteArray.mk #[32]).size = 1 := rfl; have e2 : (ByteArray.mk #[10]).size = 1 := rfl; omega)
            have s4 := fun w => run_string_add_sum (P := Tryz.prog) w (T ++ ⟨#[109, 117, 108, 32]⟩) (digB xa ++ ⟨#[32]⟩ ++ digB xb ++ ⟨#[10]⟩) (by simp only [ByteArray.size_append]; have e1 : (ByteArray.mk #[109, 117, 108, 32]).size = 4 := rfl; have e3 : (ByteArray.mk #[32]).size = 1 := rfl; have e2 : (ByteArray.mk #[10]).size = 1 := rfl; omega)
            go_quiet (first | (go_at_call 46; exact Calls.quiet_of_same (itoa_at _ _ (by omega) (by omega))))
            go_wp2_with fail
            go_roundg (m - (t + 1))
            case measure => go_light; omega
            case rel =>
              refine ⟨t + 1, _, by omega, rfl, rfl, by go_num, hid ⟨HB3.out.os, HB3.out.tape, HB3.out.output, HB3.out.size, HB3.out.block⟩, hid ?_, ?_⟩
              · obtain ⟨e1, e2, e3, e4⟩ := HXX.out
                rw [txtL_next e1, ← List.append_assoc, ← HT.out]
                simp only [data_cat, digB_data, lineT, e2, e3, e4, if_true, wMul]
                simp
              · simp only [ByteArray.size_append]
                have e1 : (ByteArray.mk #[109, 117, 108, 32]).size = 4 := rfl
                have e2 : (ByteArray.mk #[10]).size = 1 := rfl
                have e3 : (ByteArray.mk #[32]).size = 1 := rfl
                omega
          · subst hxm
            have hal := (Below.refl wr.heap.size wr).alloc (Nat.le_refl _) (.cells #[.bool false, .int .i64 xa, .int .i64 xb] 93)
            have HB3 := hid (HB2.out.trans (hal.mono HB2.out.size))
            clear hal
            go_wp2_with fail
            have s1 := fun w => run_string_add_sum (P := Tryz.prog) w (digB xa) ⟨#[32]⟩ (by have e3 : (ByteArray.mk #[32]).size = 1 := rfl; omega)
            have s2 := fun w => run_string_add_sum (P := Tryz.prog) w (digB xa ++ ⟨#[32]⟩) (digB xb) (by rw [ByteArray.size_append]; have e3 : (ByteArray.mk #[32]).size = 1 := rfl; omega)
            have s3 := fun w => run_string_add_sum (P := Tryz.prog) w (digB xa ++ ⟨#[32]⟩ ++ digB xb) ⟨#[10]⟩ (by simp only [ByteArray.size_append]; have e3 : (ByteArray.mk #[32]).size = 1 := rfl; have e2 : (ByteArray.mk #[10]).size = 1 := rfl; omega)
            have s4 := fun w => run_string_add_sum (P := Tryz.prog) w (T ++ ⟨#[97, 100, 100, 32]⟩) (digB xa ++ ⟨#[32]⟩ ++ digB xb ++ ⟨#[10]⟩) (by simp only [ByteArray.size_append]; have e1 : (ByteArray.mk #[97, 100, 100, 32]).size = 4 := rfl; have e3 : (ByteArray.mk #[32]).size = 1 := rfl; have e2 : (ByteArray.mk #[10]).size = 1 := rfl; omega)
            go_quiet (first | (go_at_call 46; exact Calls.quiet_of_same (itoa_at _ _ (by omega) (by omega))))
            go_wp2_with fail
            go_roundg (m - (t + 1))
            case measure => go_light; omega
            case rel =>
              refine ⟨t + 1, _, by omega, rfl, rfl, by go_num, hid ⟨HB3.out.os, HB3.out.tape, HB3.out.output, HB3.out.size, HB3.out.block⟩, hid ?_, ?_⟩
              · obtain ⟨e1, e2, e3, e4⟩ := HXX.out
                rw [txtL_next e1, ← List.append_assoc, ← HT.out]
                simp only [data_cat, digB_data, lineT, e2, e3, e4, Bool.false_eq_true, if_false, wAdd]
                simp
              · simp only [ByteArray.size_append]
                have e1 : (ByteArray.mk #[97, 100, 100, 32]).size = 4 := rfl
                have e2 : (ByteArray.mk #[10]).size = 1 := rfl
                have e3 : (ByteArray.mk #[32]).size = 1 := rfl
                omega
        · have e : t = m := by omega
          subst e
          go_wp2_with fail
          go_roundg (n - (k + 1))
          case measure => go_light; omega
          case rel =>
            refine ⟨k + 1, _, by omega, rfl, rfl, by go_num, hid (by rw [← HBE.out]; exact HBw2.out), hid ⟨x0, x1, xl⟩, hid ?_, by omega⟩
            rw [HT.out, ← HM.out, txtQ_next HL.out]
    · have e : k = n := by omega
      subst e
      go_wp2_with fail
      go_ret
      refine ⟨T, rfl, ?_, HBw.out⟩
      rw [HT.out, ← HN.out, txtQ_all]

end Go.Proofs.YtnnjajmkfgnhcaaGreatDoor

/-
  A contract of slices.Equal at numbers of 64 bits, where both lists have the same numbers; nothing is written.
-/
namespace Go.Proofs.YtnnjajmkfgnhcaaGreatDoor
open Go.RowKit
set_option linter.unusedVariables false
attribute [local go_sem ↓] Go.wp_at_zero Go.wp_at_succ

set_option maxHeartbeats 2000000 in
set_option maxRecDepth 100000 in
theorem equal_ok (a0 a1 : Option Addr) (n c0 c1 : Nat) (f g : Nat → Int) (w : World) (hn : n ≤ 100000) (p0 : PRow w a0 n f) (p1 : PRow w a1 n g) (e : ∀ j, j < n → f j = g j) :
    Calls Tryz.prog 20 #[.slice a0 n c0, .slice a1 n c1] w fun e w' => e = .returned (.bool true) ∧ Below w.heap.size w w' := by
  have H0 := hid p0
  have H1 := hid (p1.congr fun j hj => (e j hj).symm)
  clear p0 p1 e
  go_enter Tryz.func20, Tryz.ntmps20
  go_wp2_with fail
  go_loopg [13] n (fun q i wr => ∃ k : Nat, k ≤ n ∧ q = n - k ∧ i = .int .i64 (k : Int) ∧ Hid (PRow wr a0 n f) ∧ Hid (PRow wr a1 n f) ∧ Hid (Below w.heap.size w wr))
  case atStart => exact ⟨0, by omega, rfl, rfl, H0, H1, hid (Below.refl _ _)⟩
  case round =>
    clear H0 H1
    obtain ⟨k, hk, rfl, rfl, H0, H1, HB⟩ := hrel
    by_cases hlt : k < n
    · obtain ⟨b1, o1, rfl, r1⟩ := H0.out (by omega)
      obtain ⟨b2, o2, rfl, r2⟩ := H1.out (by omega)
      have c1 := r1 k hlt
      have c2 := r2 k hlt
      clear r1 r2
      obtain ⟨a, ha⟩ : ∃ a, f k = a := ⟨_, rfl⟩
      rw [ha] at c1 c2
      clear ha
      have k0 : (0 : Int) ≤ (k : Int) := by omega
      have k1 : (k : Int) < (n : Int) := by omega
      go_wp2_with fail
      go_region_with (first | fail)
      all_goals (go_wp2_with fail)
      all_goals (go_roundg (n - (k + 1)))
      all_goals first | (go_light; omega) | (exact ⟨k + 1, by omega, rfl, by go_num, hid H0.out.drew, hid H1.out.drew, hid HB.out.drew⟩)
    · have e : k = n := by omega
      subst e
      go_wp2_with fail
      go_ret
      exact ⟨rfl, HB.out⟩

end Go.Proofs.YtnnjajmkfgnhcaaGreatDoor

/-
  A contract of the law ListsOwn, for every input: it answers true and writes nothing that was there.
-/
namespace Go.Proofs.YtnnjajmkfgnhcaaGreatDoor
open Go.RowKit
set_option linter.unusedVariables false
attribute [local go_sem ↓] Go.wp_at_zero Go.wp_at_succ

theorem clone_row {w w' : World} {n : Nat} {f : Nat → Int} {g c : Nat} (h : w'.ownsRow w.heap.size 31 1 (.slice (some ⟨g, 0, none⟩) n c) n (cellsOf n f)) : PRow w' (some ⟨g, 0, none⟩) n f := by
  obtain ⟨ao, c, e, hp, _⟩ := Own.is (f := f) h
  cases e
  exact hp

set_option maxHeartbeats 16000000 in
set_option maxRecDepth 100000 in
theorem lown_any (ao po co io : Option Addr) (la ca lp cp nl cap li ci : Nat) (k g : Int) (c : CQ) (A : Nat → Option Addr) (C : Nat → Nat) (f p fi : Nat → Int) (w : World) (ht : Tab w) (hp : PRow w ao la f) (hf : Nums f) (hq : PRow w po lp p) (hpv : Nums p) (k0 : -9223372036854775808 ≤ k) (k1 : k ≤ 9223372036854775807) (hn63 : nl ≤ maxLen) (hg : c.log = g) (hn : c.layers.length = nl) (hr : CRow w co c.layers A C) (hi : PRow w io li fi) (vi : Nums fi) :
    Calls Tryz.prog 3 #[.slice ao la ca, .slice po lp cp, .int .i64 k, .agg #[.int .i64 g, .slice co nl cap], .slice io li ci] w fun e w' => e = .returned (.bool true) ∧ Below w.heap.size w w' := by
  obtain ⟨r, hrr⟩ : ∃ r : Nat, k % 3 = (r : Int) := ⟨(k % 3).toNat, by omega⟩
  have r2 : r ≤ 2 := by omega
  obtain ⟨n, hnr⟩ : ∃ n, n = 1 + r := ⟨_, rfl⟩
  have n1 : 1 ≤ n := by omega
  have n3 : n ≤ 3 := by omega
  obtain ⟨H, hH⟩ : ∃ H, H = 2 ^ r := ⟨_, rfl⟩
  have hN : 2 * H = 2 ^ n := by rw [hH, hnr, Nat.add_comm 1 r, Nat.pow_succ]; omega
  have hH1 : 1 ≤ H := by rw [hH]; exact Nat.one_le_two_pow
  have hH2 : H ≤ 4 := by rw [hH]; exact Nat.pow_le_pow_right (j := 2) (by omega) r2
  have HS0 := hid (StW.start w g (.slice co nl cap) 25)
  have HBE := hid (fun W (h : Below w.heap.size w W) => between_ok W (ht.kept h ht.1))
  have HOD := hid (fun W (h : Below w.heap.size w W) => opened_any W (ht.kept h ht.1))
  have HHE := hid (fun W (h : Below w.heap.size w W) => held_any W (ht.kept h ht.1))
  have HSM := hid (fun W (h : Below w.heap.size w W) => small_any c g co nl cap A C W hn63 hg hn (hr.kept h))
  have HR3 := hid (fun W => (by have := rest_any k 3 W k0 k1 (by omega) (by omega); rw [hrr] at this; exact this : Calls Tryz.prog 8 #[.int .i64 k, .int .i64 3] W fun e w' => e = .returned (.int .i64 (r : Int)) ∧ w' = W))
  have HTA := hid (fun W (h : PRow W ao la f) => table_any ao la ca (1 + (r : Int)) n (2 * H) f W (by omega) (by omega) (by omega) hN h)
  have HVA := hid (fun b W => rvars_ok (some ⟨b, 0, none⟩) n (2 * H) (2 * H) W (by omega) hN)
  have HPO := hid (fun W (h : PRow W po lp p) => point_any po lp cp n p W (by omega) h)
  have hvf := Nums_pad hf la
  have hvg := Nums_pad hpv lp
  obtain ⟨F, hF⟩ : ∃ F, padF la f = F := ⟨_, rfl⟩
  obtain ⟨G, hG⟩ : ∃ G, padF lp p = G := ⟨_, rfl⟩
  rw [hF] at hvf HTA
  rw [hG] at hvg HPO
  have HVF := hid hvf
  have HVG := hid hvg
  have HT := hid ht
  have HP := hid hp
  have HQ := hid hq
  have HPV := hid hpv
  have HR := hid hr
  have HG := hid hg
  have HN := hid hn
  have HI := hid (And.intro hi vi)
  have HNN := hid hN
  have HHH := hid hH
  clear hp hf hq hpv hr hg hn hi vi hN hH hrr hnr hvf hvg hF hG ht k0 k1 hn63
  go_enter Tryz.func3, Tryz.ntmps3
  go_wp2_with fail
  obtain ⟨X, hX⟩ : ∃ X, w.heap.size = X := ⟨_, rfl⟩
  rw [hX] at HS0
  rw [hX]
  clear hX
  generalize w.alloc (.cells #[.int .i64 g, .slice co nl cap] 25) = W0 at HS0 ⊢
  refine (HBE.out _ HS0.out.bel).mono ?_
  rintro e w1 ⟨rfl, hb⟩
  have HS1 := hid (HS0.out.next hb)
  clear hb HS0 HBE
  go_wp2_with fail
  refine (HOD.out _ HS1.out.bel).mono ?_
  rintro e w2 ⟨rfl, hb⟩
  have HS2 := hid (HS1.out.next hb)
  clear hb HS1 HOD
  go_wp2_with fail
  refine (HHE.out _ HS2.out.bel).mono ?_
  rintro e w3 ⟨rfl, hb⟩
  have HS3 := hid (HS2.out.next hb)
  clear hb HS2 HHE
  go_wp2_with fail
  refine (HR3.out _).mono ?_
  rintro e w4 ⟨rfl, hw⟩
  obtain rfl := hw.symm
  go_wp2_with fail
  refine (HTA.out _ (HP.out.kept HS3.out.bel)).mono ?_
  rintro e w5 ⟨rfl, hm⟩
  have HM5 : Hid (Row w5 w3.heap.size 0 (2 * H) F) := hid hm.row
  have HS5 := hid (HS3.out.next hm.below)
  obtain ⟨tb, htb⟩ : ∃ x, w3.heap.size = x := ⟨_, rfl⟩
  rw [htb] at HM5 ⊢
  clear hm htb HS3 HTA HR3
  go_wp2_with fail
  refine (HVA.out _ _).mono ?_
  rintro e w4 ⟨rfl, hw⟩
  obtain rfl := hw.symm
  go_wp2_with fail
  refine (HPO.out _ (HQ.out.kept HS5.out.bel)).mono ?_
  rintro e w6 ⟨rfl, hm⟩
  have HM6 := hid (HM5.out.kept hm.below (HM5.out.lt (by omega)))
  have HG6 : Hid (Row w6 w5.heap.size 0 n G) := hid hm.row
  have HS6 := hid (HS5.out.next hm.below)
  obtain ⟨qb, hqb⟩ : ∃ x, w5.heap.size = x := ⟨_, rfl⟩
  rw [hqb] at HG6 ⊢
  clear hm hqb HM5 HS5 HVA HPO
  go_wp2_with fail
  refine (clone_any tb 0 (2 * H) (2 * H) F w6 (by omega) (by omega) HM6.out).mono ?_
  rintro e w7 ⟨g1, s1, rfl, ho, hb⟩
  have HT7 := hid (clone_row ho)
  have HM7 := hid (HM6.out.kept hb (HM6.out.lt (by omega)))
  have HG7 := hid (HG6.out.kept hb (HG6.out.lt (by omega)))
  have HS7 := hid (HS6.out.next hb)
  clear ho hb HM6 HG6 HS6
  go_wp2_with fail
  refine (clone_any qb 0 n n G w7 (by omega) (by omega) HG7.out).mono ?_
  rintro e w8 ⟨g2, s2, rfl, ho, hb⟩
  have HLW : Hid (LsW w w8 X tb qb g1 g2 n (2 * H) g (.slice co nl cap) F G) := hid ⟨(HS7.out.next hb).bel, (HS7.out.next hb).box.c0, (HS7.out.next hb).box.c1, HM7.out.kept hb (HM7.out.lt (by omega)), HG7.out.kept hb (HG7.out.lt (by omega)), HT7.out.kept hb, clone_row ho⟩
  clear ho hb HT7 HM7 HG7 HS7
  have HLN : Hid (∀ W, Below w8.heap.size w8 W → LsW w W X tb qb g1 g2 n (2 * H) g (.slice co nl cap) F G) := hid (fun W h => HLW.out.next h (by omega) (by omega))
  have HFX : Hid (∀ W, Below w8.heap.size w8 W → Calls Tryz.prog 12 #[.slice (some ⟨tb, 0, none⟩) (2 * H) (2 * H), .int .u64 5] W fun e w' => out1 w8.heap.size W e w') := hid (fun W h => (fix_ok tb 0 r H (2 * H) F 5 W (by omega) HHH.out (HT.out.kept (HLN.out W h).st HT.out.1) (HLN.out W h).t HVF.out (by omega) (by omega)).mono fun e w' hh => made_out h.size (by omega) hh)
  have HEQ : Hid (∀ W, Below w8.heap.size w8 W → Calls Tryz.prog 13 #[.slice (some ⟨qb, 0, none⟩) n n] W fun e w' => out1 w8.heap.size W e w') := hid (fun W h => (eq_ok qb 0 n n (2 * H) G W (by omega) HNN.out (HLN.out W h).q HVG.out).mono fun e w' hh => made_out h.size (by omega) hh)
  have HCO : Hid (∀ W, Below w8.heap.size w8 W → Calls Tryz.prog 14 #[.slice (some ⟨qb, 0, none⟩) n n] W fun e w' => out1 w8.heap.size W e w') := hid (fun W h => (coefs_ok qb 0 n n G W n1 (by omega) (HLN.out W h).q HVG.out).mono fun e w' hh => made_out h.size (by omega) hh)
  have HPT : Hid (∀ W, Below w8.heap.size w8 W → Calls Tryz.prog 16 #[.slice (some ⟨tb, 0, none⟩) (2 * H) (2 * H), .int .i64 0] W fun e w' => out1 w8.heap.size W e w') := hid (fun W h => (tpath_ok n (2 * H) tb 0 (2 * H) 0 F W (by omega) HNN.out (Nat.le_refl _) (HT.out.kept (HLN.out W h).st HT.out.1) (HLN.out W h).t HVF.out (by omega)).mono fun e w' ⟨a, h1, h2, h3, h4, h5⟩ => ⟨a, n, h1, Okb.of h3 h4 (Nat.le_trans h.size h2) (by omega), h5⟩)
  have HSP : Hid (∀ W, Below w8.heap.size w8 W → Calls Tryz.prog 15 #[.slice (some ⟨W.heap.size, 0, none⟩) 2 2, .slice (some ⟨qb, 0, none⟩) n n] (W.alloc (.cells #[.slice (some ⟨tb, 0, none⟩) (2 * H) (2 * H), .slice (some ⟨tb, 0, none⟩) (2 * H) (2 * H)] 22)) fun e w' => outS w8.heap.size n W e w') := hid (fun W h => by
    have hal := bel_new W (.cells #[.slice (some ⟨tb, 0, none⟩) (2 * H) (2 * H), .slice (some ⟨tb, 0, none⟩) (2 * H) (2 * H)] 22)
    have h3 := h.trans (hal.mono h.size)
    refine (sprove_own W.heap.size 0 2 2 (two tb tb) (fun _ => 0) (two (2 * H) (2 * H)) (fun _ => F) n (2 * H) (some ⟨qb, 0, none⟩) n G _ (by omega) (by omega) (by omega) HNN.out (HT.out.kept (HLN.out _ h3).st HT.out.1) (tabs_two (F := fun _ => F) (HLN.out W h).t (HLN.out W h).t (by omega) _) (fun _ _ => HVF.out) (PRow.of (HLN.out _ h3).q) HVG.out).mono ?_
    rintro e w' ⟨b2, a, he, hl, hrw, hlo, hfr⟩
    have hs := h3.size
    exact ⟨_, b2, a, he, fun i hi => ⟨hl.cell i hi, Okb.of (hl.row i hi) (hl.may i hi) (by have := (hl.high i hi).1; omega) (by omega)⟩, Okb.of hrw hfr (by omega) (by omega), hal.trans (hl.below.mono hal.size)⟩)
  have HOP : Hid (∀ W, Below w8.heap.size w8 W → Calls Tryz.prog 17 #[.slice (some ⟨tb, 0, none⟩) (2 * H) (2 * H), .slice (some ⟨qb, 0, none⟩) n n, .slice (some ⟨W.heap.size, 0, none⟩) 1 1] (W.alloc (.cells #[.int .i64 0] 3)) fun e w' => outO w8.heap.size n (fdQ F G n n 0) W e w') := hid (fun W h => by
    have hal := bel_new W (.cells #[.int .i64 0] 3)
    have h3 := h.trans (hal.mono h.size)
    refine (open_own n (2 * H) tb 0 (2 * H) n 1 1 (some ⟨qb, 0, none⟩) (some ⟨W.heap.size, 0, none⟩) F G (fun _ => 0) _ n1 (by omega) HNN.out (HT.out.kept (HLN.out _ h3).st HT.out.1) (HLN.out _ h3).t HVF.out (PRow.of (HLN.out _ h3).q) HVG.out (IRowP.one W 0 _) ⟨by omega, fun j _ => ⟨by simp, by have := hfQ_pos n 0; simp; omega⟩⟩).mono ?_
    rintro e w' ⟨rb, lb, mm, he, hrow, hop, hb, hown⟩
    have hs := h3.size
    exact ⟨rb, lb, he, Okb.of hrow hown.2.1 (by have := hown.1; omega) (by omega), hown.look hs (by omega), hal.trans (hb.mono hal.size)⟩)
  generalize fdQ F G n n 0 = vv at HOP
  obtain ⟨E, hE⟩ : ∃ E, w8.heap.size = E := ⟨_, rfl⟩
  have HE := hid hE
  rw [hE] at HFX HEQ HCO HPT HSP HOP HLN
  have HB8 : Hid (Below E w8 w8) := hid (by rw [← hE]; exact Below.refl _ _)
  clear hE HLW
  have HEZ : Hid (∀ W W', Below E w8 W → Below W.heap.size W W' → Below E w8 W') := hid (fun W W' h1 h2 => h1.trans (h2.mono (by rw [← HE.out]; exact h1.size)))
  go_wp2_with fail
  refine (HFX.out _ HB8.out).mono ?_
  rintro e w9 ⟨fb, fc, rfl, hok, hb⟩
  have HB9 := hid (HEZ.out _ _ HB8.out hb)
  have HO1 := hid hok
  clear hok hb HB8 HFX
  go_wp2_with fail
  refine (HEQ.out _ HB9.out).mono ?_
  rintro e w10 ⟨eb, ec, rfl, hok, hb⟩
  have HB10 := hid (HEZ.out _ _ HB9.out hb)
  replace HO1 := hid (HO1.out.kept hb)
  have HO2 := hid hok
  clear hok hb HB9 HEQ
  go_wp2_with fail
  refine (HCO.out _ HB10.out).mono ?_
  rintro e w11 ⟨vb, vc, rfl, hok, hb⟩
  have HB11 := hid (HEZ.out _ _ HB10.out hb)
  replace HO1 := hid (HO1.out.kept hb)
  replace HO2 := hid (HO2.out.kept hb)
  have HO3 := hid hok
  clear hok hb HB10 HCO
  go_wp2_with fail
  refine (HSP.out _ HB11.out).mono ?_
  rintro e w12 ⟨R, b2, a, rfl, hra, hok, hb⟩
  have HB12 := hid (HEZ.out _ _ HB11.out hb)
  replace HO1 := hid (HO1.out.kept hb)
  replace HO2 := hid (HO2.out.kept hb)
  replace HO3 := hid (HO3.out.kept hb)
  have HO4 := hid hok
  have HRA := hid hra
  clear hok hra hb HB11 HSP
  go_wp2_with fail
  refine (HPT.out _ HB12.out).mono ?_
  rintro e w13 ⟨pb, pc, rfl, hok, hb⟩
  have HB13 := hid (HEZ.out _ _ HB12.out hb)
  replace HO1 := hid (HO1.out.kept hb)
  replace HO2 := hid (HO2.out.kept hb)
  replace HO3 := hid (HO3.out.kept hb)
  replace HO4 := hid (HO4.out.kept hb)
  replace HRA : Hid (∀ i, i < n → w13.cell? ⟨R, i, none⟩ = some (.slice (some ⟨a i, 0, none⟩) 3 3) ∧ Okb E w13 (a i) 3) := hid (fun i hi => ⟨(Spd.of hb).sl (HRA.out i hi).1, (HRA.out i hi).2.kept hb⟩)
  have HO5 := hid hok
  clear hok hb HB12 HPT
  go_wp2_with fail
  refine (HOP.out _ HB13.out).mono ?_
  rintro e w14 ⟨rb, lb, rfl, hok, hlk, hb⟩
  have hal := bel_new w14 (.cells #[.slice (some ⟨rb, 0, none⟩) n n, .int .u64 vv, .slice (some ⟨lb, 0, none⟩) 1 1] 42)
  have hbb := hb.trans (hal.mono hb.size)
  have HB14 := hid (HEZ.out _ _ HB13.out hbb)
  replace HO1 := hid (HO1.out.kept hbb)
  replace HO2 := hid (HO2.out.kept hbb)
  replace HO3 := hid (HO3.out.kept hbb)
  replace HO4 := hid (HO4.out.kept hbb)
  replace HO5 := hid (HO5.out.kept hbb)
  have HO6 := hid (hok.kept hal)
  have HLK := hid (hlk.spd (Spd.of hal))
  have HRB : Hid (∀ i, i < n → (w14.alloc (.cells #[.slice (some ⟨rb, 0, none⟩) n n, .int .u64 vv, .slice (some ⟨lb, 0, none⟩) 1 1] 42)).cell? ⟨R, i, none⟩ = some (.slice (some ⟨a i, 0, none⟩) 3 3) ∧ Okb E (w14.alloc (.cells #[.slice (some ⟨rb, 0, none⟩) n n, .int .u64 vv, .slice (some ⟨lb, 0, none⟩) 1 1] 42)) (a i) 3) := hid (fun i hi => ⟨(Spd.of hbb).sl (HRA.out i hi).1, (HRA.out i hi).2.kept hbb⟩)
  have HBX := hid (Bx3.new w14 (.slice (some ⟨rb, 0, none⟩) n n) (.int .u64 vv) (.slice (some ⟨lb, 0, none⟩) 1 1) 42)
  clear hok hlk hb hal hbb HB13 HOP HRA
  obtain ⟨i0, hi0, hz0, hz1, hz2⟩ := info_parts Tryz.infoRL
  have HIN := hid (And.intro hi0 (And.intro hz0 (And.intro hz1 hz2)))
  clear hi0 hz0 hz1 hz2
  go_wp2_with (at_builtin; refine wpList_append_grows _ rfl _ _ 36 rfl 22 i0 (.slice none 0 0) 1 24 Tryz.underlying36 HIN.out.1 HIN.out.2.1 HIN.out.2.2.1 HIN.out.2.2.2 rfl (by decide) (some ⟨R, 0, none⟩) n n ((List.range n).map fun i => .slice (some ⟨a i, 0, none⟩) 3 3) rfl ?qa1 ?qa2 ?qa3 ⟨w14.heap.size + 1, 0, none⟩ 6 6 [.slice (some ⟨fb, 0, none⟩) fc fc, .slice (some ⟨eb, 0, none⟩) ec ec, .slice (some ⟨vb, 0, none⟩) vc vc, .slice (some ⟨b2, 0, none⟩) 2 2, .slice (some ⟨pb, 0, none⟩) pc pc, .slice (some ⟨rb, 0, none⟩) n n] rfl rfl ?qa4 ?qa5 ?qa6 ?qa7 ?qa8 ?_)
  case qa1 => intro h; cases h
  case qa2 => simp
  case qa3 =>
    intro b hb j u hj
    cases hb
    obtain ⟨i, hi, rfl⟩ := List.mem_map.1 (List.mem_of_getElem? hj)
    have hjn : j < n := by
      have := (List.getElem?_eq_some_iff.1 hj).1
      simpa using this
    have e : (some (Value.slice (some ⟨a j, 0, none⟩) 3 3) : Option Value) = some (.slice (some ⟨a i, 0, none⟩) 3 3) := by
      rw [← hj]; simp [hjn]
    rw [← e]
    have := (Spd.of (bel_new _ (.cells #[.slice (some ⟨fb, 0, none⟩) fc fc, .slice (some ⟨eb, 0, none⟩) ec ec, .slice (some ⟨vb, 0, none⟩) vc vc, .slice (some ⟨b2, 0, none⟩) 2 2, .slice (some ⟨pb, 0, none⟩) pc pc, .slice (some ⟨rb, 0, none⟩) n n] 22))).sl (HRB.out j hjn).1
    rw [Addr.add_lit, Nat.zero_add]
    exact this
  case qa4 =>
    have e : (w14.alloc (.cells #[.slice (some ⟨rb, 0, none⟩) n n, .int .u64 vv, .slice (some ⟨lb, 0, none⟩) 1 1] 42)).heap.size = w14.heap.size + 1 := by simp
    rw [← e]
    exact six_cells _ _ _ _ _ _ _ _
  case qa5 =>
    intro u hu
    simp at hu
    rcases hu with hu | hu | hu | hu | hu | hu <;> subst hu <;> rfl
  case qa6 => omega
  case qa7 => unfold maxLen; omega
  case qa8 => omega
  intro v6 w6 hown6 hgrow6
  have hal6 := bel_new (w14.alloc (.cells #[.slice (some ⟨rb, 0, none⟩) n n, .int .u64 vv, .slice (some ⟨lb, 0, none⟩) 1 1] 42)) (.cells #[.slice (some ⟨fb, 0, none⟩) fc fc, .slice (some ⟨eb, 0, none⟩) ec ec, .slice (some ⟨vb, 0, none⟩) vc vc, .slice (some ⟨b2, 0, none⟩) 2 2, .slice (some ⟨pb, 0, none⟩) pc pc, .slice (some ⟨rb, 0, none⟩) n n] 22)
  obtain ⟨AB, cA, ev, hls, hb6⟩ := hls_append (E := E) (k := n + 6) (xs := ((List.range n).map fun i => Value.slice (some ⟨a i, 0, none⟩) 3 3) ++ [.slice (some ⟨fb, 0, none⟩) fc fc, .slice (some ⟨eb, 0, none⟩) ec ec, .slice (some ⟨vb, 0, none⟩) vc vc, .slice (some ⟨b2, 0, none⟩) 2 2, .slice (some ⟨pb, 0, none⟩) pc pc, .slice (some ⟨rb, 0, none⟩) n n]) hown6 hgrow6 (by omega) (by
    intro u hu
    rcases List.mem_append.1 hu with hu | hu
    · obtain ⟨i, hi, rfl⟩ := List.mem_map.1 hu
      exact ⟨a i, 3, rfl, ((HRB.out i (List.mem_range.1 hi)).2).kept hal6⟩
    · simp at hu
      rcases hu with hu | hu | hu | hu | hu | hu <;> subst hu
      · exact ⟨_, _, rfl, HO1.out.kept hal6⟩
      · exact ⟨_, _, rfl, HO2.out.kept hal6⟩
      · exact ⟨_, _, rfl, HO3.out.kept hal6⟩
      · exact ⟨_, _, rfl, HO4.out.kept hal6⟩
      · exact ⟨_, _, rfl, HO5.out.kept hal6⟩
      · exact ⟨_, _, rfl, HO6.out.kept hal6⟩)
  obtain ⟨m6, hm6⟩ : ∃ m6, n + 6 = m6 := ⟨_, rfl⟩
  have m69 : m6 ≤ 9 := by omega
  rw [hm6] at ev hls
  subst ev
  have hbW := hal6.trans (hb6.mono hal6.size)
  have HB6 := hid (HEZ.out _ _ HB14.out hbW)
  have HL6 := hid hls
  have HK6 := hid (HLK.out.spd (Spd.of hbW))
  have HX6 := hid ((Spd.of hbW).sl HBX.out.c2)
  obtain ⟨OB, hOB⟩ : ∃ OB, w14.heap.size = OB := ⟨_, rfl⟩
  rw [hOB] at HX6 ⊢
  clear hown6 hgrow6 hal6 hls hb6 hbW hm6 hOB HO1 HO2 HO3 HO4 HO5 HO6 HRB HLK HBX HB14 HIN
  go_wp2_with fail
  go_loopg [121] m6 (fun q x wr => ∃ t : Nat, t ≤ m6 ∧ q = m6 - t ∧ x = .int .i64 (t : Int) ∧ Hid (Below E w8 wr) ∧ Hid (Spd w6 wr))
  case atStart => exact ⟨0, by omega, rfl, rfl, HB6, hid (Spd.refl _)⟩
  case round =>
    clear HB6
    obtain ⟨t, htm, rfl, rfl, HB, HS⟩ := hrel
    by_cases hlt : t < m6
    · obtain ⟨b, cc, hc, hok⟩ := HL6.out.spd HS.out t hlt
      have HOK := hid hok
      have t0 : (0 : Int) ≤ (t : Int) := by omega
      have t1 : (t : Int) < (m6 : Int) := by omega
      clear hok
      go_wp2_with fail
      refine (spoil_own b cc 9 wr HE.out HB.out HOK.out).mono ?_
      rintro e w' ⟨rfl, hb, hs⟩
      have HB2 := hid hb
      have HS2 := hid (HS.out.trans hs)
      clear hb hs hc
      go_wp2_with fail
      go_roundg (m6 - (t + 1))
      case measure => go_light; omega
      case rel => exact ⟨t + 1, by omega, rfl, by go_num, HB2, HS2⟩
    · have e : t = m6 := by omega
      have t1 : ¬ ((t : Int) < (m6 : Int)) := by omega
      have x2 := HS.out.sl HX6.out
      have HK := hid (HK6.out.spd HS.out)
      clear HL6 e
      go_wp2_with fail
      clear t1 x2
      go_loopg [131] 1 (fun q x ws => ∃ t : Nat, t ≤ 1 ∧ q = 1 - t ∧ x = .int .i64 (t : Int) ∧ Hid (Below E w8 ws) ∧ Hid (Spd wr ws))
      case atStart => exact ⟨0, by omega, rfl, rfl, HB, hid (Spd.refl _)⟩
      case round =>
        clear HB HS hlt htm
        obtain ⟨t, htm, rfl, rfl, HB, HS⟩ := hrel
        by_cases hlt : t < 1
        · have e : t = 0 := by omega
          subst e
          obtain ⟨qb', tb', c0, c1, hE0, hwr, hls⟩ := HK.out.spd HS.out
          have hal := bel_new wr (.cells #[.slice (some ⟨qb', 0, none⟩) n n, .slice (some ⟨tb', 0, none⟩) n n] 50)
          have HB2 := hid (HEZ.out _ _ HB.out hal)
          have HS2 := hid (HS.out.trans (Spd.of hal))
          have HWR := hid ((Spd.of hal).wrt _ _ _ hwr)
          have HLS := hid (hls.spd (Spd.of hal))
          have HX2 := hid (Box2.new wr (.slice (some ⟨qb', 0, none⟩) n n) (.slice (some ⟨tb', 0, none⟩) n n) 50)
          clear hal hwr hls
          go_wp2_with fail
          obtain ⟨Y, hY⟩ : ∃ Y, wr.heap.size = Y := ⟨_, rfl⟩
          rw [hY] at HX2 ⊢
          clear hY c0 c1
          generalize wr.alloc (.cells #[.slice (some ⟨qb', 0, none⟩) n n, .slice (some ⟨tb', 0, none⟩) n n] 50) = W2 at HB2 HS2 HWR HLS HX2 ⊢
          refine (spoil_own2 qb' n 9 9 W2 HE.out HB2.out HWR.out hE0 (by omega)).mono ?_
          rintro e w21 ⟨rfl, hb, hs⟩
          have HB3 := hid hb
          have HS3 := hid (HS2.out.trans hs)
          have HLS3 := hid (HLS.out.spd hs)
          have y1 := hs.sl HX2.out.c1
          clear hb hs HB2 HS2 HWR HLS HX2
          go_wp2_with fail
          clear y1
          go_loopg [142] n (fun q x ws => ∃ t : Nat, t ≤ n ∧ q = n - t ∧ x = .int .i64 (t : Int) ∧ Hid (Below E w8 ws) ∧ Hid (Spd w21 ws))
          case atStart => exact ⟨0, by omega, rfl, rfl, HB3, hid (Spd.refl _)⟩
          case round =>
            clear HB3 HB
            obtain ⟨t, htn, rfl, rfl, HB, HT3⟩ := hrel
            by_cases hln : t < n
            · obtain ⟨u0, v0, c0, ok0⟩ := HLS3.out.spd HT3.out (2 * t) (by omega)
              obtain ⟨u1, v1, c1, ok1⟩ := HLS3.out.spd HT3.out (2 * t + 1) (by omega)
              rw [Nat.mul_comm 2 t] at c0 c1
              have hal := bel_new wr (.cells #[.slice (some ⟨u0, 0, none⟩) v0 v0, .slice (some ⟨u1, 0, none⟩) v1 v1] 53)
              have HB4 := hid (HEZ.out _ _ HB.out hal)
              have HS4 := hid (HT3.out.trans (Spd.of hal))
              have HK0 := hid (ok0.kept hal)
              have HK1 := hid (ok1.kept hal)
              have HX4 := hid (Box2.new wr (.slice (some ⟨u0, 0, none⟩) v0 v0) (.slice (some ⟨u1, 0, none⟩) v1 v1) 53)
              have t0 : (0 : Int) ≤ (t : Int) := by omega
              have t1 : (t : Int) < (n : Int) := by omega
              clear hal ok0 ok1
              go_wp2_with fail
              obtain ⟨Z, hZ⟩ : ∃ Z, wr.heap.size = Z := ⟨_, rfl⟩
              rw [hZ] at HX4 ⊢
              clear hZ c0 c1
              generalize wr.alloc (.cells #[.slice (some ⟨u0, 0, none⟩) v0 v0, .slice (some ⟨u1, 0, none⟩) v1 v1] 53) = W4 at HB4 HS4 HK0 HK1 HX4 ⊢
              refine (spoil_own u0 v0 9 W4 HE.out HB4.out HK0.out).mono ?_
              rintro e w22 ⟨rfl, hb, hs⟩
              have HB5 := hid hb
              have HS5 := hid (HS4.out.trans hs)
              have HK5 := hid (HK1.out.spd hs)
              have y1 := hs.sl HX4.out.c1
              clear hb hs HB4 HS4 HK0 HK1 HX4
              go_wp2_with fail
              refine (spoil_own u1 v1 9 w22 HE.out HB5.out HK5.out).mono ?_
              rintro e w23 ⟨rfl, hb, hs⟩
              have HB6 := hid hb
              have HS6 := hid (HS5.out.trans hs)
              clear hb hs HB5 HS5 HK5 y1
              go_wp2_with fail
              go_roundg (n - (t + 1))
              case measure => go_light; omega
              case rel => exact ⟨t + 1, by omega, rfl, by go_num, HB6, HS6⟩
            · have t1 : ¬ ((t : Int) < (n : Int)) := by omega
              go_wp2_with fail
              go_roundg (1 - (0 + 1))
              case measure => go_light; omega
              case rel => exact ⟨0 + 1, by omega, rfl, by go_num, HB, hid (HS3.out.trans HT3.out)⟩
        · have t1 : ¬ ((t : Int) < 1) := by omega
          have hlw := HLN.out _ HB.out
          have HLW := hid hlw
          have HE1 := hid (fun W (h : Below wr.heap.size wr W) => equal_ok (some ⟨tb, 0, none⟩) (some ⟨g1, 0, none⟩) (2 * H) (2 * H) s1 F F W (by omega) (PRow.of (hlw.next h (by omega) (by omega)).t) (hlw.next h (by omega) (by omega)).t2 (fun _ _ => rfl))
          have HE2 := hid (fun W (h : Below wr.heap.size wr W) => equal_ok (some ⟨qb, 0, none⟩) (some ⟨g2, 0, none⟩) n n s2 G G W (by omega) (PRow.of (hlw.next h (by omega) (by omega)).q) (hlw.next h (by omega) (by omega)).q2 (fun _ _ => rfl))
          clear hlw HB HS HK
          go_wp2_with fail
          clear t1 hlt htm
          refine (HE1.out _ (Below.refl _ _)).mono ?_
          rintro e w23 ⟨rfl, hb⟩
          have HBE := hid hb
          clear hb
          go_wp2_with fail
          refine (HE2.out _ HBE.out).mono ?_
          rintro e w24 ⟨rfl, hb⟩
          have HLW4 := hid (HLW.out.next (HBE.out.trans (hb.mono HBE.out.size)) (by omega) (by omega))
          clear hb HBE HLW HE1 HE2
          have z0 := HLW4.out.c0
          have z1 := HLW4.out.c1
          go_wp2_with fail
          refine (HSM.out _ HLW4.out.st).mono ?_
          rintro e w25 ⟨r', rfl, hrt, hb⟩
          have HS25 : Hid (StW w w25 X g (.slice co nl cap)) := hid ⟨HLW4.out.st.trans (hb.mono HLW4.out.st.size), (HLW4.out.next hb (by omega) (by omega)).c0, (HLW4.out.next hb (by omega) (by omega)).c1, Nat.lt_of_lt_of_le (World.block_lt_of_cell? w24 _ z0) hb.size⟩
          clear hb HLW4 z0 z1 HSM HLN HEZ HE HK6 HX6
          cases r' with
          | false =>
            clear hrt
            go_wp2_with fail
            go_ret
            exact ⟨rfl, HS25.out.bel⟩
          | true =>
            have HC := hid (hrt rfl)
            clear hrt
            obtain ⟨bc, oc, rfl⟩ := right_addr HC.out HR.out
            obtain ⟨gn, M, rfl, gn4, sh, hM, M1, M16, hMk⟩ := right_nums HG.out HN.out HC.out
            have n4 : nl ≤ 4 := by have := HC.out.few; have := HN.out; omega
            obtain ⟨q, hq⟩ : ∃ q, needQ c = q := ⟨_, rfl⟩
            have q40 : q ≤ 40 := by rw [← hq]; exact needQ_le HC.out
            have HQN := hid hq
            have HSH := hid sh
            have HMM := hid hM
            clear hM hMk hq
            obtain ⟨z0, z1, zl⟩ := HS25.out.box
            have gn0 : (0 : Int) ≤ (gn : Int) := by omega
            go_wp2_with fail
            rw [HSH.out]
            refine (point_any io li ci M fi w25 (by omega) (HI.out.1.kept HS25.out.bel)).mono ?_
            rintro e w26 ⟨rfl, hm⟩
            have HS26 := hid (HS25.out.next hm.below)
            have HXR : Hid (Row w26 w25.heap.size 0 M (padF li fi)) := hid hm.row
            obtain ⟨xb, hxb⟩ : ∃ x, w25.heap.size = x := ⟨_, rfl⟩
            rw [hxb] at HXR ⊢
            have HFX := hid (Nums_pad HI.out.2 li)
            generalize padF li fi = fx at HXR HFX
            clear hm hxb HS25 z0 z1 zl sh
            have HCL := hid (fun W (h : Below w26.heap.size w26 W) => clone_any xb 0 M M fx W (by omega) (by omega) (HXR.out.kept h (HXR.out.lt M1)))
            obtain ⟨TX, hTX⟩ : ∃ TX : ByteArray, TX = ⟨(printQ c).toArray⟩ := ⟨_, rfl⟩
            have HCT : Hid (∀ W, Below w.heap.size w W → Calls Tryz.prog 22 #[.agg #[.int .i64 (gn : Int), .slice (some ⟨bc, oc, none⟩) nl cap]] W fun e w' => e = .returned (.string TX) ∧ Below W.heap.size W w') := hid (fun W h => (rtext_any c gn bc oc nl cap A C W HG.out HN.out HC.out (HR.out.kept h)).mono fun e w' ⟨t, h1, h2, h3⟩ => ⟨by rw [h1, hTX, ← h2], h3⟩)
            clear hTX
            obtain ⟨z0, z1, zl⟩ := HS26.out.box
            have HBW := hid HS26.out.bel
            go_wp2_with fail
            go_cut [36, 37] (fun a36 a37 wx => ∃ g3 s3, a36 = .slice (some ⟨g3, 0, none⟩) M s3 ∧ a37 = .string TX ∧ Hid (PRow wx (some ⟨g3, 0, none⟩) M fx ∧ Below w26.heap.size w26 wx))
            case first =>
              go_region_held3 (fun W => W.cell? ⟨X, 0, none⟩ = some (.int .i64 (gn : Int)) ∧ W.cell? ⟨X, 1, none⟩ = some (.slice (some ⟨bc, oc, none⟩) nl cap)) (first | assumption | exact ⟨z0, z1⟩ | exact hzA | exact hzT) (first
                | (go_at_call 11; refine (HCL.out _ (by first | exact hbT2 | exact (Below.refl _ w26).drew | exact Below.refl _ _)).mono ?_; rintro e wA ⟨g3, s3, rfl, ho, hbA⟩; have hbA2 : Below w26.heap.size w26 wA := (by first | exact hbA | exact (Below.refl _ w26).drew.trans hbA | exact hbT2.trans (hbA.mono hbT2.size)); have hpA := clone_row ho; have hzA : wA.cell? ⟨X, 0, none⟩ = some (.int .i64 (gn : Int)) ∧ wA.cell? ⟨X, 1, none⟩ = some (.slice (some ⟨bc, oc, none⟩) nl cap) := ⟨(hbA2.cell zl).trans z0, (hbA2.cell zl).trans z1⟩)
                | (go_at_call 22; refine (HCT.out _ (by first | exact HBW.out.trans (hbA2.mono HBW.out.size) | exact HBW.out.drew | exact HBW.out)).mono ?_; rintro e wT ⟨rfl, hbT⟩; have hbT2 : Below w26.heap.size w26 wT := (by first | exact hbT | exact (Below.refl _ w26).drew.trans hbT | exact hbA2.trans (hbT.mono hbA2.size)); have hzT : wT.cell? ⟨X, 0, none⟩ = some (.int .i64 (gn : Int)) ∧ wT.cell? ⟨X, 1, none⟩ = some (.slice (some ⟨bc, oc, none⟩) nl cap) := ⟨(hbT2.cell zl).trans z0, (hbT2.cell zl).trans z1⟩))
              all_goals (go_wp2_with fail)
              all_goals go_meet
              all_goals first | exact ⟨g3, s3, rfl, rfl, hid ⟨hpA, hbA2⟩⟩ | exact ⟨g3, s3, rfl, rfl, hid ⟨hpA.kept hbT, hbT2⟩⟩
            case rest =>
              obtain ⟨g3, s3, rfl, rfl, HH⟩ := hcut
              obtain ⟨wB, rfl⟩ : ∃ x, x = wc := ⟨wc, rfl⟩
              have HLV : Hid (∀ W, Below wB.heap.size wB W → StW w W X (gn : Int) (.slice (some ⟨bc, oc, none⟩) nl cap) ∧ Row W xb 0 M fx ∧ PRow W (some ⟨g3, 0, none⟩) M fx) := hid (fun W h => by
                have h2 := HH.out.2.trans (h.mono HH.out.2.size)
                exact ⟨HS26.out.next h2, HXR.out.kept h2 (HXR.out.lt M1), HH.out.1.kept h⟩)
              clear HH HS26 HXR HBW z0 z1 zl HCL
              have HRU : Hid (∀ W, Below wB.heap.size wB W → Calls Tryz.prog 23 #[.agg #[.int .i64 (gn : Int), .slice (some ⟨bc, oc, none⟩) nl cap], .slice (some ⟨xb, 0, none⟩) M M] W fun e w' => ∃ V m7, e = .returned (.tuple #[.slice (some ⟨V, 0, none⟩) m7 m7, .int .i64 0]) ∧ m7 ≤ 5 ∧ HLs wB.heap.size w' V m7 ∧ Below W.heap.size W w') := hid (fun W h => by
                refine (run_ok c gn bc oc nl cap A C xb 0 M M fx W HG.out HN.out (HR.out.kept (HLV.out W h).1.bel) HC.out HSH.out HMM.out M16 M1 (HLV.out W h).2.1 HFX.out).mono ?_
                rintro e w' ⟨V, D, he, hO⟩
                have hs := h.size
                exact ⟨V, nl + 1, he, by omega, fun j hj => ⟨D j, lenQ c j, hO.cell j hj, Okb.of (hO.row j hj) (hO.may j hj) (by have := (hO.own j hj).1; omega) (by have := (lenQ_rng HC.out j (by rw [HN.out]; omega)).2; omega)⟩, hO.below⟩)
              have HDR : Hid (∀ W, Below wB.heap.size wB W → Calls Tryz.prog 24 #[.agg #[.int .i64 (gn : Int), .slice (some ⟨bc, oc, none⟩) nl cap]] W fun e w' => e = .returned (.tuple #[.int .i64 (q : Int), .int .i64 0]) ∧ Below W.heap.size W w') := hid (fun W h => by rw [← HQN.out]; exact draws_ok c gn bc oc nl cap A C W HG.out HN.out (HR.out.kept (HLV.out W h).1.bel) HC.out)
              have HPO := hid (fun W (h : Below wB.heap.size wB W) => point_any po lp cp q p W (by omega) (HQ.out.kept (HLV.out W h).1.bel))
              have HVP := hid (Nums_pad HPV.out lp)
              generalize padF lp p = fp at HPO HVP
              have HPW : Hid (∀ W bd, Below wB.heap.size wB W → Row W bd 0 q fp → Calls Tryz.prog 25 #[.agg #[.int .i64 (gn : Int), .slice (some ⟨bc, oc, none⟩) nl cap], .slice (some ⟨xb, 0, none⟩) M M, .slice (some ⟨bd, 0, none⟩) q q] W fun e w' => ∃ PB, e = .returned (.tuple #[.agg #[.slice (some ⟨PB, 0, none⟩) nl nl], .int .i64 0]) ∧ Lkp wB.heap.size w' PB nl ∧ Below W.heap.size W w') := hid (fun W bd h hr => (pv_own c gn bc oc nl cap A C xb 0 M M fx bd 0 q q fp W HG.out HN.out (HR.out.kept (HLV.out W h).1.bel) HC.out HSH.out HMM.out (HLV.out W h).2.1 HFX.out hr HVP.out HQN.out.symm (Nat.le_refl _) (Nat.le_trans q40 (by decide)) (HT.out.kept (HLV.out W h).1.bel HT.out.1)).mono fun e w' hh => proof_parts hh h.size HN.out HC.out)
              have HEQ : Hid (∀ W, Below wB.heap.size wB W → Calls Tryz.prog 20 #[.slice (some ⟨xb, 0, none⟩) M M, .slice (some ⟨g3, 0, none⟩) M s3] W fun e w' => e = .returned (.bool true) ∧ Below W.heap.size W w') := hid (fun W h => equal_ok (some ⟨xb, 0, none⟩) (some ⟨g3, 0, none⟩) M M s3 fx fx W (by omega) (PRow.of (HLV.out W h).2.1) (HLV.out W h).2.2 (fun _ _ => rfl))
              have hV := (HLV.out wB (Below.refl _ _)).1
              obtain ⟨E2, hE2⟩ : ∃ E, wB.heap.size = E := ⟨_, rfl⟩
              have HE := hid hE2
              rw [hE2] at HRU HDR HPO HPW HEQ HLV
              have HBC : Hid (Below E2 wB wB) := hid (by rw [← hE2]; exact Below.refl _ _)
              clear hE2
              have HEZ : Hid (∀ W W', Below E2 wB W → Below W.heap.size W W' → Below E2 wB W') := hid (fun W W' h1 h2 => h1.trans (h2.mono (by rw [← HE.out]; exact h1.size)))
              obtain ⟨z0, z1, zl⟩ := hV.box
              clear hV
              go_wp2_with fail
              refine (HRU.out _ HBC.out).mono ?_
              rintro e w29 ⟨V, m7, rfl, m75, hls, hb⟩
              have HB29 := hid (HEZ.out _ _ HBC.out hb)
              have HL29 := hid hls
              clear hls hb HBC HRU z0 z1 zl
              go_wp2_with fail
              go_loopg [184] m7 (fun q x wr => ∃ t : Nat, t ≤ m7 ∧ q = m7 - t ∧ x = .int .i64 (t : Int) ∧ Hid (Below E2 wB wr) ∧ Hid (Spd w29 wr))
              case atStart => exact ⟨0, by omega, rfl, rfl, HB29, hid (Spd.refl _)⟩
              case round =>
                clear HB29
                obtain ⟨t, htm, rfl, rfl, HB, HS⟩ := hrel
                by_cases hlt : t < m7
                · obtain ⟨b, cc, hc, hok⟩ := HL29.out.spd HS.out t hlt
                  have HOK := hid hok
                  have t0 : (0 : Int) ≤ (t : Int) := by omega
                  have t1 : (t : Int) < (m7 : Int) := by omega
                  clear hok
                  go_wp2_with fail
                  refine (spoil_own b cc 9 wr HE.out HB.out HOK.out).mono ?_
                  rintro e w' ⟨rfl, hb, hs⟩
                  have HB2 := hid hb
                  have HS2 := hid (HS.out.trans hs)
                  clear hb hs hc
                  go_wp2_with fail
                  go_roundg (m7 - (t + 1))
                  case measure => go_light; omega
                  case rel => exact ⟨t + 1, by omega, rfl, by go_num, HB2, HS2⟩
                · have t1 : ¬ ((t : Int) < (m7 : Int)) := by omega
                  obtain ⟨z0, z1, zl⟩ := (HLV.out _ HB.out).1.box
                  clear HL29 HS
                  go_wp2_with fail
                  clear t1 hlt htm
                  refine (HDR.out _ HB.out).mono ?_
                  rintro e w30 ⟨rfl, hb⟩
                  have HB30 := hid (HEZ.out _ _ HB.out hb)
                  clear hb HB z0 z1 zl HDR
                  obtain ⟨z0, z1, zl⟩ := (HLV.out _ HB30.out).1.box
                  have HPO2 : Hid (∀ W, Below E2 wB W → Calls Tryz.prog 10 #[.slice po lp cp, .int .i64 (q : Int)] W fun e w' => ∃ bd, e = .returned (.slice (some ⟨bd, 0, none⟩) q q) ∧ Row w' bd 0 q fp ∧ Below W.heap.size W w') := hid (fun W h => (HPO.out W h).mono fun e w' hh => ⟨_, hh.1, hh.2.row, hh.2.below⟩)
                  have q1 : 0 < q := by
                    have h := at_fits (c := c) (j := 0) (List.length_pos_iff.2 HC.out.some)
                    rw [HQN.out] at h
                    omega
                  clear HPO
                  go_wp2_with fail
                  go_cut [44] (fun a44 wx => ∃ Q PB, a44 = .pointer (some ⟨Q, 0, none⟩) ∧ Hid (wx.cell? ⟨Q, 0, none⟩ = some (.slice (some ⟨PB, 0, none⟩) nl nl) ∧ Lkp E2 wx PB nl ∧ Below E2 wB wx))
                  case first =>
                    have HB30d := hid HB30.out.drew
                    have HE30 : Hid (E2 ≤ w30.heap.size) := hid (by rw [← HE.out]; exact HB30.out.size)
                    have hz0a : ∀ o, (w30.drew.alloc o).cell? ⟨X, 0, none⟩ = some (.int .i64 (gn : Int)) ∧ (w30.drew.alloc o).cell? ⟨X, 1, none⟩ = some (.slice (some ⟨bc, oc, none⟩) nl cap) := fun o => ⟨keepC (bel_new _ _) z0, keepC (bel_new _ _) z1⟩
                    go_region_held3 (fun W => W.cell? ⟨X, 0, none⟩ = some (.int .i64 (gn : Int)) ∧ W.cell? ⟨X, 1, none⟩ = some (.slice (some ⟨bc, oc, none⟩) nl cap)) (first | assumption | exact ⟨z0, z1⟩ | exact hz2 | exact hz1 | exact hz2a _ | exact hz1a _ | exact hz0a _ | exact ⟨put_cell zc2 hz2.1 (fun e => by cases e), put_cell zc2 hz2.2 (fun e => by cases e)⟩ | exact ⟨put_cell zc3 hz2.1 (fun e => by cases e), put_cell zc3 hz2.2 (fun e => by cases e)⟩) (first
                      | (go_at_call 10; refine (HPO2.out _ (by first | exact HB30d.out | exact HEZ.out _ _ HB30d.out (bel_new _ _))).mono ?_; rintro e w31 ⟨bd, rfl, hrow, hb1⟩; have HB31 : Hid (Below E2 wB w31) := hid (by first | exact HEZ.out _ _ HB30d.out hb1 | exact HEZ.out _ _ (HEZ.out _ _ HB30d.out (bel_new _ _)) hb1); have hz1 : w31.cell? ⟨X, 0, none⟩ = some (.int .i64 (gn : Int)) ∧ w31.cell? ⟨X, 1, none⟩ = some (.slice (some ⟨bc, oc, none⟩) nl cap) := ⟨(HLV.out _ HB31.out).1.box.c0, (HLV.out _ HB31.out).1.box.c1⟩; have hz1a : ∀ o, (w31.alloc o).cell? ⟨X, 0, none⟩ = some (.int .i64 (gn : Int)) ∧ (w31.alloc o).cell? ⟨X, 1, none⟩ = some (.slice (some ⟨bc, oc, none⟩) nl cap) := fun o => ⟨keepC (bel_new _ _) hz1.1, keepC (bel_new _ _) hz1.2⟩; have HE31 : Hid (E2 ≤ w31.heap.size) := hid (by rw [← HE.out]; exact HB31.out.size); (try (have zc1 : w31.cell? ⟨w30.heap.size, 0, none⟩ = some (.slice none 0 0) := (newbox (W := w30.drew) hb1).1; have zf1 : w31.frozen? ⟨w30.heap.size, 0, none⟩ = false := (newbox (W := w30.drew) hb1).2)))
                      | (go_at_call 25; refine (HPW.out _ bd (by first | exact HB31.out | exact HEZ.out _ _ HB31.out (bel_new _ _)) (by first | exact hrow | exact hrow.kept (bel_new _ _) (hrow.lt q1))).mono ?_; rintro e w32 ⟨PB, rfl, hlk, hb2⟩; have HB32 : Hid (Below E2 wB w32) := hid (by first | exact HEZ.out _ _ HB31.out hb2 | exact HEZ.out _ _ (HEZ.out _ _ HB31.out (bel_new _ _)) hb2); have hz2 : w32.cell? ⟨X, 0, none⟩ = some (.int .i64 (gn : Int)) ∧ w32.cell? ⟨X, 1, none⟩ = some (.slice (some ⟨bc, oc, none⟩) nl cap) := ⟨(HLV.out _ HB32.out).1.box.c0, (HLV.out _ HB32.out).1.box.c1⟩; have hz2a : ∀ o, (w32.alloc o).cell? ⟨X, 0, none⟩ = some (.int .i64 (gn : Int)) ∧ (w32.alloc o).cell? ⟨X, 1, none⟩ = some (.slice (some ⟨bc, oc, none⟩) nl cap) := fun o => ⟨keepC (bel_new _ _) hz2.1, keepC (bel_new _ _) hz2.2⟩; (try (have zc2 := (keepF hb2 zc1 zf1).1; have zf2 := (keepF hb2 zc1 zf1).2)); (try (have zc3 := (newbox (W := w31) hb2).1; have zf3 := (newbox (W := w31) hb2).2))))
                    all_goals (go_wp2_with fail)
                    all_goals go_meet
                    all_goals first
                      | exact ⟨_, PB, rfl, hid ⟨by rw [World.cell?_alloc_new]; rfl, hlk.spd (Spd.of (bel_new _ _)), HEZ.out _ _ HB32.out (bel_new _ _)⟩⟩
                      | exact ⟨_, PB, rfl, hid ⟨World.cell?_setCell_same _ _ _ zc2, hlk.put zc2, HB32.out.setCell HE30.out _⟩⟩
                      | exact ⟨_, PB, rfl, hid ⟨World.cell?_setCell_same _ _ _ zc3, hlk.put zc3, HB32.out.setCell HE31.out _⟩⟩
                  case rest =>
                    obtain ⟨Q, PB, rfl, HH⟩ := hcut
                    clear HB30 z0 z1 zl HPW HPO2
                    have yq := HH.out.1
                    have HLP := hid HH.out.2.1
                    have HBD := hid HH.out.2.2
                    clear HH
                    go_wp2_with fail
                    clear yq
                    obtain ⟨wD, rfl⟩ : ∃ x, x = wc := ⟨wc, rfl⟩
                    go_loopg [208] nl (fun q x wr => ∃ t : Nat, t ≤ nl ∧ q = nl - t ∧ x = .int .i64 (t : Int) ∧ Hid (Below E2 wB wr) ∧ Hid (Spd wD wr))
                    case atStart => exact ⟨0, by omega, rfl, rfl, HBD, hid (Spd.refl _)⟩
                    case round =>
                      clear HBD
                      obtain ⟨t, htn, rfl, rfl, HB, HS⟩ := hrel
                      by_cases hlt : t < nl
                      · obtain ⟨R', k', b', c', h1, hk', hls, h4, ok⟩ := HLP.out.spd HS.out t hlt
                        rw [Nat.mul_comm 2 t] at h1 h4
                        have hal := bel_new wr (.cells #[.slice (some ⟨R', 0, none⟩) k' k', .slice (some ⟨b', 0, none⟩) c' c'] 67)
                        have HB2 := hid (HEZ.out _ _ HB.out hal)
                        have HS2 := hid (HS.out.trans (Spd.of hal))
                        have HOK := hid (ok.kept hal)
                        have HLS := hid (hls.spd (Spd.of hal))
                        have HX2 := hid (Box2.new wr (.slice (some ⟨R', 0, none⟩) k' k') (.slice (some ⟨b', 0, none⟩) c' c') 67)
                        have t0 : (0 : Int) ≤ (t : Int) := by omega
                        have t1 : (t : Int) < (nl : Int) := by omega
                        clear hal ok hls
                        go_wp2_with fail
                        obtain ⟨Y, hY⟩ : ∃ Y, wr.heap.size = Y := ⟨_, rfl⟩
                        rw [hY] at HX2 ⊢
                        clear hY h1 h4
                        generalize wr.alloc (.cells #[.slice (some ⟨R', 0, none⟩) k' k', .slice (some ⟨b', 0, none⟩) c' c'] 67) = W5 at HB2 HS2 HOK HLS HX2 ⊢
                        refine (spoil_own b' c' 9 W5 HE.out HB2.out HOK.out).mono ?_
                        rintro e w34 ⟨rfl, hb, hs⟩
                        have HB3 := hid hb
                        have HS3 := hid (HS2.out.trans hs)
                        have HLS3 := hid (HLS.out.spd hs)
                        have y0 := hs.sl HX2.out.c0
                        clear hb hs HB2 HS2 HOK HLS HX2 HB HS
                        go_wp2_with fail
                        clear y0
                        go_loopg [218] k' (fun q x ws => ∃ i : Nat, i ≤ k' ∧ q = k' - i ∧ x = .int .i64 (i : Int) ∧ Hid (Below E2 wB ws) ∧ Hid (Spd w34 ws))
                        case atStart => exact ⟨0, by omega, rfl, rfl, HB3, hid (Spd.refl _)⟩
                        case round =>
                          clear HB3
                          obtain ⟨i, hik, rfl, rfl, HB, HS⟩ := hrel
                          by_cases hli : i < k'
                          · obtain ⟨b, cc, hc, hok⟩ := HLS3.out.spd HS.out i hli
                            have HOK := hid hok
                            have i0 : (0 : Int) ≤ (i : Int) := by omega
                            have i1 : (i : Int) < (k' : Int) := by omega
                            clear hok
                            go_wp2_with fail
                            refine (spoil_own b cc 9 wr HE.out HB.out HOK.out).mono ?_
                            rintro e w' ⟨rfl, hb, hs⟩
                            have HB2 := hid hb
                            have HS2 := hid (HS.out.trans hs)
                            clear hb hs hc
                            go_wp2_with fail
                            go_roundg (k' - (i + 1))
                            case measure => go_light; omega
                            case rel => exact ⟨i + 1, by omega, rfl, by go_num, HB2, HS2⟩
                          · have i1 : ¬ ((i : Int) < (k' : Int)) := by omega
                            go_wp2_with fail
                            go_roundg (nl - (t + 1))
                            case measure => go_light; omega
                            case rel => exact ⟨t + 1, by omega, rfl, by go_num, HB, hid (HS3.out.trans HS.out)⟩
                      · have t1 : ¬ ((t : Int) < (nl : Int)) := by omega
                        clear HLP HS
                        go_wp2_with fail
                        clear t1
                        refine (HEQ.out _ HB.out).mono ?_
                        rintro e w36 ⟨rfl, hb⟩
                        have HB6 := hid (HEZ.out _ _ HB.out hb)
                        clear hb HB HEQ
                        have HS6 := hid (HLV.out _ HB6.out).1
                        obtain ⟨z0, z1, zl⟩ := HS6.out.box
                        go_wp2_with fail
                        refine (HCT.out _ HS6.out.bel).mono ?_
                        rintro e w37 ⟨rfl, hb⟩
                        have HB7 := hid (HS6.out.bel.trans (hb.mono HS6.out.bel.size))
                        clear hb z0 z1 zl HB6 HS6 HLV HEZ HCT
                        go_wp2_with fail
                        go_ret
                        exact ⟨by simp, HB7.out⟩

end Go.Proofs.YtnnjajmkfgnhcaaGreatDoor
