/-
  Several texts in one: CircOpen, CircF, Tiny, Gkl1, Equal, TopT, RefSp, TopX1; each opens with what it holds.
-/
import Derived.Test.YtnnnlalhhhhaeaaGreatDoorChecked
import Derived.Test.YtnnnlalhhhhaeaaGreatDoorCirc
import Derived.OpenShut
import Derived.Deep.Strs
import Derived.Deep.SlicePairs
import Derived.Test.YtnnnlalhhhhaeaaGreatDoorCircC
import Derived.Test.YtnnnlalhhhhaeaaGreatDoorMGkB
import Derived.Test.YtnnnlalhhhhaeaaGreatDoorMRef
import Derived.Test.YtnnnlalhhhhaeaaGreatDoorMFiat
import Derived.Deep.RegionHeld3
import Derived.Test.YtnnnlalhhhhaeaaGreatDoorOwn
import Derived.Deep.RegionWith
import Derived.Deep.LoopGhost
import Derived.Deep.Light
import Derived.Deep.DrawnRows
import Derived.Test.YtnnnlalhhhhaeaaGreatDoorPrf
import Derived.Test.YtnnnlalhhhhaeaaGreatDoorCircM
import Derived.Test.YtnnnlalhhhhaeaaGreatDoorCircS2
import Derived.Test.YtnnnlalhhhhaeaaGreatDoorCircP
/-
  What a circuit that came in gives the walk.
-/
namespace Go.Proofs.YtnnnlalhhhhaeaaGreatDoor
open Go.ChangeShapes Go.WideShapes Go.RowKit Go.Deep
set_option linter.unusedVariables false

/-- Numbers of Go's int. -/
def I64 (a : Int) : Prop := -9223372036854775808 ≤ a ∧ a ≤ 9223372036854775807
theorem i64_of_wf {a : Int} (h : (Lit.int .i64 a).wf = true) : I64 a := by
  simp [Lit.wf, IntKind.min, IntKind.max, IntKind.signed, IntKind.bits] at h
  unfold I64
  omega
/-- A circuit that came in. -/
structure IsCirc (w : World) (g : Int) (a : Option Addr) (len cap : Nat) (c : CQ) (A : Nat → Option Addr) (C : Nat → Nat) : Prop where
  log : c.log = g
  logR : I64 g
  lenE : c.layers.length = len
  capE : len ≤ cap
  maxE : cap ≤ maxLen
  row : CRow w a c.layers A C
  rng : ∀ l ∈ c.layers, I64 l.log ∧ l.gates.length ≤ maxLen ∧ ∀ q ∈ l.gates, I64 q.a ∧ I64 q.b
theorem add_three (a : Addr) (i j : Nat) : (a.add (i * 3)).add j = a.add (3 * i + j) := by rw [add_add, Nat.mul_comm]
theorem add_two (a : Addr) (i j : Nat) : (a.add (i * 2)).add j = a.add (2 * i + j) := by rw [add_add, Nat.mul_comm]
theorem gate_cells : Tryz.prog.cellsOf 52 = 3 := by kernel_rfl
theorem layer_cells : Tryz.prog.cellsOf 50 = 2 := by kernel_rfl
theorem circ_cells : Tryz.prog.cellsOf 24 = 2 := by kernel_rfl
theorem int_cells : Tryz.prog.cellsOf 3 = 1 := by kernel_rfl
theorem bool_cells : Tryz.prog.cellsOf 4 = 1 := by kernel_rfl
theorem gates_cells : Tryz.prog.cellsOf 48 = 1 := by kernel_rfl
theorem layers_cells : Tryz.prog.cellsOf 22 = 1 := by kernel_rfl
theorem cell_spot {w : World} {a : Addr} {u : Value} (h : w.cell? (a.add 0) = some u) : ∃ b off, a = ⟨b, off, none⟩ := by
  obtain ⟨b, off, spot⟩ := a
  have hspot : spot = none := by simpa [Addr.add] using World.cell?_spot h
  subst hspot
  exact ⟨b, off, rfl⟩

section
variable {H : Type} {enc : TypeId × Value → H} {W : World} {base : Nat} {held : Bool}
set_option maxRecDepth 100000 in
theorem gates_of {fuel : Nat} {a : Option Addr} {len cap : Nat} {x : DataW H × List MemPlace}
    (h : DataW.trod enc Tryz.prog W base (fun _ => true) held fuel 48 [Value.slice a len cap] = some x) :
    ∃ gs : List GQ, gs.length = len ∧ len ≤ cap ∧ len ≤ maxLen ∧ GRow W a gs ∧ ∀ g ∈ gs, I64 g.a ∧ I64 g.b := by
  rcases open_slice Tryz.underlying48 h with ⟨hcs, _⟩ | ⟨a', len', cap', m, n, D, Pl, hcs, _, hl, hm, hmm, _, hx⟩
  · simp at hcs
    obtain ⟨rfl, rfl, rfl⟩ := hcs
    exact ⟨[], rfl, Nat.le_refl _, Nat.zero_le _, fun h => absurd rfl h, by simp⟩
  · simp at hcs
    obtain ⟨rfl, rfl, rfl⟩ := hcs
    simp only [if_true] at hmm
    have each : ∀ i, i < len → ∃ g : GQ, W.cell? (a'.add (3 * i)) = some (.bool g.mul) ∧ W.cell? (a'.add (3 * i + 1)) = some (.int .i64 g.a) ∧ W.cell? (a'.add (3 * i + 2)) = some (.int .i64 g.b) ∧ I64 g.a ∧ I64 g.b := by
      intro i hi
      obtain ⟨cs', h1, h2⟩ := hx i (by omega)
      rw [gate_cells] at h1
      obtain ⟨_, hlen, hcell⟩ := World.cells?_some h1
      obtain ⟨y0, y1, y2, k, _, _, g0, g1, g2⟩ := trod_struct3 Tryz.underlying52 h2
      match cs', hlen with
      | [v0, v1, v2], _ =>
        simp [int_cells, bool_cells] at g0 g1 g2
        obtain ⟨b, e0, _⟩ := DataW.trod_bool Tryz.underlying4 g0
        obtain ⟨p, e1, _, r1⟩ := DataW.trod_int Tryz.underlying3 g1
        obtain ⟨q, e2, _, r2⟩ := DataW.trod_int Tryz.underlying3 g2
        simp at e0 e1 e2
        subst e0
        subst e1
        subst e2
        have c0 := hcell 0 (by omega)
        have c1 := hcell 1 (by omega)
        have c2 := hcell 2 (by omega)
        rw [add_three] at c0 c1 c2
        exact ⟨⟨b, p, q⟩, by simpa using c0, by simpa using c1, by simpa using c2, i64_of_wf r1, i64_of_wf r2⟩
    haveI : Inhabited GQ := ⟨⟨false, 0, 0⟩⟩
    obtain ⟨f, hf⟩ := choose_lt each
    have hg : ∀ j g, ((List.range len).map f)[j]? = some g → j < len ∧ g = f j := by
      intro j g e
      by_cases hj : j < len
      · simp [hj] at e; exact ⟨hj, e.symm⟩
      · simp [hj] at e
    refine ⟨(List.range len).map f, by simp, hl, Nat.le_trans hl hm, fun hne => ?_, fun g hg2 => ?_⟩
    · have h0 : 0 < len := by
        rcases Nat.eq_zero_or_pos len with e | e
        · rw [e] at hne; simp at hne
        · exact e
      obtain ⟨b, off, rfl⟩ := cell_spot (by simpa using (hf 0 h0).1)
      refine ⟨b, off, rfl, fun j g e => ?_⟩
      obtain ⟨hj, rfl⟩ := hg j g e
      obtain ⟨c0, c1, c2, _⟩ := hf j hj
      rw [Addr.add_lit] at c0 c1 c2
      exact ⟨c0, c1, c2⟩
    · obtain ⟨j, hj, rfl⟩ := List.mem_map.1 hg2
      exact (hf j (List.mem_range.1 hj)).2.2.2
set_option maxRecDepth 100000 in
theorem layers_of {fuel : Nat} {a : Option Addr} {len cap : Nat} {x : DataW H × List MemPlace}
    (h : DataW.trod enc Tryz.prog W base (fun _ => true) held fuel 22 [Value.slice a len cap] = some x) :
    ∃ (ls : List LQ) (A : Nat → Option Addr) (C : Nat → Nat), ls.length = len ∧ len ≤ cap ∧ cap ≤ maxLen ∧ CRow W a ls A C ∧ ∀ l ∈ ls, I64 l.log ∧ l.gates.length ≤ maxLen ∧ ∀ q ∈ l.gates, I64 q.a ∧ I64 q.b := by
  rcases open_slice Tryz.underlying22 h with ⟨hcs, _⟩ | ⟨a', len', cap', m, n, D, Pl, hcs, _, hl, hm, hmm, _, hx⟩
  · simp at hcs
    obtain ⟨rfl, rfl, rfl⟩ := hcs
    exact ⟨[], fun _ => none, fun _ => 0, rfl, Nat.le_refl _, Nat.zero_le _, fun h => absurd rfl h, by simp⟩
  · simp at hcs
    obtain ⟨rfl, rfl, rfl⟩ := hcs
    simp only [if_true] at hmm
    have each : ∀ i, i < len → ∃ y : LQ × Option Addr × Nat, W.cell? (a'.add (2 * i)) = some (.int .i64 y.1.log) ∧ W.cell? (a'.add (2 * i + 1)) = some (.slice y.2.1 y.1.gates.length y.2.2) ∧ GRow W y.2.1 y.1.gates ∧ y.1.gates.length ≤ y.2.2 ∧
        I64 y.1.log ∧ y.1.gates.length ≤ maxLen ∧ ∀ q ∈ y.1.gates, I64 q.a ∧ I64 q.b := by
      intro i hi
      obtain ⟨cs', h1, h2⟩ := hx i (by omega)
      rw [layer_cells] at h1
      obtain ⟨_, hlen, hcell⟩ := World.cells?_some h1
      obtain ⟨y0, y1, k, _, _, g0, g1⟩ := trod_struct2 Tryz.underlying50 h2
      match cs', hlen with
      | [v0, v1], _ =>
        simp [int_cells, gates_cells] at g0 g1
        obtain ⟨p, e0, _, r0⟩ := DataW.trod_int Tryz.underlying3 g0
        simp at e0
        subst e0
        obtain ⟨ga, gl, gc, rfl⟩ : ∃ ga gl gc, v1 = .slice ga gl gc := by
          rcases open_slice Tryz.underlying48 g1 with ⟨e, _⟩ | ⟨_, _, _, _, _, _, _, e, _⟩
          · simp at e; exact ⟨_, _, _, e⟩
          · simp at e; exact ⟨_, _, _, e⟩
        obtain ⟨gs, e1, e2, e3, e4, e5⟩ := gates_of g1
        have c0 := hcell 0 (by omega)
        have c1 := hcell 1 (by omega)
        rw [add_two] at c0 c1
        exact ⟨(⟨p, gs⟩, ga, gc), by simpa using c0, by simpa [e1] using c1, e4, by rw [e1]; exact e2, i64_of_wf r0, by rw [e1]; exact e3, e5⟩
    haveI : Inhabited (LQ × Option Addr × Nat) := ⟨(⟨0, []⟩, none, 0)⟩
    obtain ⟨f, hf⟩ := choose_lt each
    have hg : ∀ j g, ((List.range len).map fun i => (f i).1)[j]? = some g → j < len ∧ g = (f j).1 := by
      intro j g e
      by_cases hj : j < len
      · simp [hj] at e; exact ⟨hj, e.symm⟩
      · simp [hj] at e
    refine ⟨(List.range len).map fun i => (f i).1, fun i => (f i).2.1, fun i => (f i).2.2, by simp, hl, hm, fun hne => ?_, fun g hg2 => ?_⟩
    · have h0 : 0 < len := by
        rcases Nat.eq_zero_or_pos len with e | e
        · rw [e] at hne; simp at hne
        · exact e
      obtain ⟨b, off, rfl⟩ := cell_spot (by simpa using (hf 0 h0).1)
      refine ⟨b, off, rfl, fun j g e => ?_⟩
      obtain ⟨hj, rfl⟩ := hg j g e
      obtain ⟨c0, c1, c2, c3, _⟩ := hf j hj
      rw [Addr.add_lit] at c0 c1
      exact ⟨c0, c1, c2, c3⟩
    · obtain ⟨j, hj, rfl⟩ := List.mem_map.1 hg2
      exact (hf j (List.mem_range.1 hj)).2.2.2.2
set_option maxRecDepth 100000 in
theorem circ_val {v : Value} {d : DataW H} {p : List MemPlace} (hv : Value.okWide Tryz.prog W .any base 24 v) (h : DataW.Trod enc Tryz.prog W 0 (fun _ => true) true 24 v d p) :
    ∃ g a len cap, v = .agg #[.int .i64 g, .slice a len cap] := by
  obtain ⟨cs, rfl, hs⟩ := okWide_struct Tryz.underlying24 hv
  obtain ⟨fuel, hf⟩ := h
  obtain ⟨y0, y1, k, _, _, g0, g1⟩ := trod_struct2 Tryz.underlying24 hf
  rw [circ_cells] at hs
  obtain ⟨l⟩ := cs
  match l, hs with
  | [v0, v1], _ =>
    simp [Value.cells, int_cells, layers_cells] at g0 g1
    obtain ⟨p, e0, _, _⟩ := DataW.trod_int Tryz.underlying3 g0
    simp at e0
    subst e0
    rcases open_slice Tryz.underlying22 g1 with ⟨e, _⟩ | ⟨_, _, _, _, _, _, _, e, _⟩
    · simp at e; exact ⟨_, _, _, _, by rw [e]⟩
    · simp at e; exact ⟨_, _, _, _, by rw [e]⟩
set_option maxRecDepth 100000 in
theorem circ_of {g : Int} {a : Option Addr} {len cap : Nat} {d : DataW H} {p : List MemPlace} (h : DataW.Trod enc Tryz.prog W 0 (fun _ => true) true 24 (.agg #[.int .i64 g, .slice a len cap]) d p) :
    ∃ c A C, IsCirc W g a len cap c A C := by
  obtain ⟨fuel, hf⟩ := h
  obtain ⟨y0, y1, k, _, _, g0, g1⟩ := trod_struct2 Tryz.underlying24 hf
  simp [Value.cells, int_cells, layers_cells] at g0 g1
  obtain ⟨p, e0, _, r0⟩ := DataW.trod_int Tryz.underlying3 g0
  simp at e0
  subst e0
  obtain ⟨ls, A, C, e1, e2, e3, e4, e5⟩ := layers_of g1
  exact ⟨⟨g, ls⟩, A, C, rfl, i64_of_wf r0, e1, e2, e3, e4, e5⟩
end

end Go.Proofs.YtnnnlalhhhhaeaaGreatDoor

/-
  Plain: of a right circuit all numbers are small; the law's own tiny circuit; no program in it.
-/
namespace Go.Proofs.YtnnnlalhhhhaeaaGreatDoor
set_option linter.unusedVariables false

theorem pow_le16 {k : Int} (h : k ≤ 4) : 2 ^ k.toNat ≤ 16 := Nat.le_trans (Nat.pow_le_pow_right (by omega) (show k.toNat ≤ 4 by omega)) (Nat.le_refl 16)
theorem layersR_small : ∀ (ls : List LQ) (k : Int), k ≤ 4 → layersR k ls → ∀ l ∈ ls, (0 ≤ l.log ∧ l.log ≤ 4) ∧ l.gates.length ≤ 16 ∧ ∀ q ∈ l.gates, (0 ≤ q.a ∧ q.a < 100) ∧ 0 ≤ q.b ∧ q.b < 100
  | [], _, _, _ => by simp
  | x :: r, k, hk, h => by
    intro l hl
    obtain ⟨⟨hx1, hx2, hx3⟩, hr⟩ := h
    rcases List.mem_cons.1 hl with rfl | hl
    · refine ⟨hx1, by rw [hx2]; exact pow_le16 hx1.2, fun q hq => ?_⟩
      obtain ⟨⟨a0, a1⟩, b0, b1⟩ := hx3 q hq
      have := pow_le16 hk
      exact ⟨⟨a0, by omega⟩, b0, by omega⟩
    · exact layersR_small r x.log hx1.2 hr l hl
theorem right_small {c : CQ} (h : c.right) : ∀ l ∈ c.layers, (0 ≤ l.log ∧ l.log ≤ 4) ∧ l.gates.length ≤ 16 ∧ ∀ q ∈ l.gates, (0 ≤ q.a ∧ q.a < 100) ∧ 0 ≤ q.b ∧ q.b < 100 := layersR_small _ _ h.log.2 h.each
theorem right_fits {c : CQ} (h : c.right) : c.fits := by
  have hs := right_small h
  have hl := h.log
  intro x hx
  rcases List.mem_cons.1 hx with rfl | hx
  · show 0 ≤ c.log ∧ c.log < 100
    omega
  · obtain ⟨l, hl1, hl2⟩ := List.mem_flatMap.1 hx
    obtain ⟨h1, h2, h3⟩ := hs l hl1
    rcases List.mem_cons.1 hl2 with rfl | hl2
    · show 0 ≤ l.log ∧ l.log < 100
      omega
    · obtain ⟨q, hq, rfl⟩ := List.mem_map.1 hl2
      exact h3 q hq
def tinyQ : CQ := ⟨1, [⟨1, [⟨true, 0, 1⟩, ⟨false, 0, 1⟩]⟩]⟩
theorem tiny_right : tinyQ.right := by
  refine ⟨by decide, by decide, by decide, ⟨by decide, by decide, ?_⟩, trivial⟩
  intro q hq
  simp at hq
  rcases hq with rfl | rfl <;> exact ⟨by decide, by decide⟩

end Go.Proofs.YtnnnlalhhhhaeaaGreatDoor

/-
  A contract of the laws' own tiny circuit; what it makes is new.
-/
namespace Go.Proofs.YtnnnlalhhhhaeaaGreatDoor
open Go.RowKit
set_option linter.unusedVariables false
attribute [local go_sem ↓] Go.wp_at_zero Go.wp_at_succ

theorem results_cell1 {fn : Func} {p : Tmp} {ty : TypeId} (h : fn.results = #[.cell p ty]) (tmps : Array Value) (P : Program) (w : World) :
    (results fn tmps).run P w = ((asAddr (tmps.getD p undef)).run P w).andThen fun a w₁ => (loadVar ty a).run P w₁ := by
  simp only [results, h]
  simp [Sem.run_bind, Result.andThen]
theorem load_circ1 {w : World} {b : Nat} {x0 x1 : Value} (c0 : w.cell? ⟨b, 0, none⟩ = some x0) (c1 : w.cell? ⟨b, 1, none⟩ = some x1) : (loadVar 24 ⟨b, 0, none⟩).run Tryz.prog w = .ok (.agg #[x0, x1]) w := by
  go_simp
theorem results_circ1 {fn : Func} {p : Tmp} (h : fn.results = #[.cell p 24]) {tmps : Array Value} {w : World} {b : Nat} {x0 x1 : Value} (hp : tmps.getD p undef = .pointer (some ⟨b, 0, none⟩)) (c0 : w.cell? ⟨b, 0, none⟩ = some x0) (c1 : w.cell? ⟨b, 1, none⟩ = some x1) :
    (results fn tmps).run Tryz.prog w = .ok (.agg #[x0, x1]) w := by
  rw [results_cell1 h, hp]
  simp [asAddr, Result.andThen, load_circ1 c0 c1]

end Go.Proofs.YtnnnlalhhhhaeaaGreatDoor

/-
  The right proof holds for just the outputs that have the circuit's value at the point that was drawn; contracts of the laws' own small and held.
-/
namespace Go.Proofs.YtnnnlalhhhhaeaaGreatDoor
open Go.RowKit
set_option linter.unusedVariables false
attribute [local go_sem ↓] Go.wp_at_zero Go.wp_at_succ

theorem right_iff {c : CQ} (hc : c.right) (f D fo : Nat → Int) :
    (partsQ c).holds D (rightP c f D).told (ofK (evS (fun j => kk (fo j)) (fun j => kk (D j)) ((partsQ c).lg 0))) (fun j => kk (f j)) ↔ evS (fun j => kk (fo j)) (fun j => kk (D j)) ((partsQ c).lg 0) = evS (fun j => kk (valsQ c f c.layers.length j)) (fun j => kk (D j)) ((partsQ c).lg 0) := by
  have n1 : 0 < (partsQ c).n := List.length_pos_iff.2 hc.some
  rw [rightP_told, Parts.right_holds (partsQ c) D _ _ (parts_fits hc) (parts_run hc f) (fun j => by have := parts_lg hc j; omega) n1]
  have h1 : (partsQ c).tru (valsK c f) D 0 = evS (fun j => kk (valsQ c f c.layers.length j)) (fun j => kk (D j)) ((partsQ c).lg 0) := rfl
  have h2 : (partsQ c).tru (valsK c f) D (partsQ c).n = evS (fun j => kk (f j)) ((partsQ c).z D (partsQ c).n) ((partsQ c).lg (partsQ c).n) := by
    refine evS_congr _ (fun b _ => ?_) (fun _ _ => rfl)
    show kk (valsQ c f (c.layers.length - c.layers.length) b) = _
    rw [Nat.sub_self]
    show kk (nrm (f b)) = kk (f b)
    exact kk_nrm _
  rw [h1, h2]
  constructor
  · rintro ⟨h, _⟩
    have := congrArg kk h
    rwa [kk_ofK, kk_ofK] at this
  · intro h
    exact ⟨by rw [h], rfl⟩
/-- A list of two numbers. -/
def pr (a b : Int) (j : Nat) : Int := if j = 0 then a else b
theorem Nums_pr {a b : Int} (h0 : 0 ≤ a) (h1 : a ≤ 18446744073709551615) (h2 : 0 ≤ b) (h3 : b ≤ 18446744073709551615) : Nums (pr a b) := fun j => by
  unfold pr
  split <;> omega
def dr4 (j : Nat) : Int := if j = 0 then 5 else if j = 1 then 6 else if j = 2 then 7 else 8
theorem Nums_dr4 : Nums dr4 := fun j => by
  unfold dr4
  repeat' split
  all_goals omega
theorem tiny_need : needQ tinyQ = 4 := by decide
theorem tiny_lg : (partsQ tinyQ).lg 0 = 1 := by decide
theorem tiny_ends : endsQ tinyQ 2 2 := by unfold endsQ; decide
theorem ev_one (f g : Nat → K) : evS f g 1 = f 0 + g 0 * (f 1 - f 0) := by
  rw [show (1 : Nat) = 0 + 1 from rfl, evS_fold, evS_zero]; rfl
theorem tiny_yes : (partsQ tinyQ).holds dr4 (rightP tinyQ (pr 3 4) dr4).told (ofK (evS (fun j => kk (pr 12 7 j)) (fun j => kk (dr4 j)) ((partsQ tinyQ).lg 0))) (fun j => kk (pr 3 4 j)) := by
  rw [right_iff tiny_right, tiny_lg, ev_one, ev_one]
  kernel_rfl
theorem tiny_no : ¬ (partsQ tinyQ).holds dr4 (rightP tinyQ (pr 3 4) dr4).told (ofK (evS (fun j => kk (pr 12 8 j)) (fun j => kk (dr4 j)) ((partsQ tinyQ).lg 0))) (fun j => kk (pr 3 4 j)) := by
  rw [right_iff tiny_right, tiny_lg, ev_one, ev_one]
  intro h
  have h2 := congrArg Fin.val h
  revert h2
  decide
set_option maxHeartbeats 2000000 in
set_option maxRecDepth 100000 in
theorem small_top (c : CQ) (g : Int) (ao : Option Addr) (n cap : Nat) (A : Nat → Option Addr) (C : Nat → Nat) (w : World) (hn63 : n ≤ maxLen) (hg : c.log = g) (hn : c.layers.length = n) (hr : CRow w ao c.layers A C) :
    Calls Tryz.prog 7 #[.agg #[.int .i64 g, .slice ao n cap]] w fun e w' => ∃ r : Bool, e = .returned (.bool r) ∧ (r = true → c.right) ∧ Below w.heap.size w w' := by
  have HS0 := hid (StW.start w g (.slice ao n cap) 24)
  have HC := hid (fun W (h : Below w.heap.size w W) => rcirc_any c g ao n cap A C W hg hn (hr.kept h))
  have HR := hid hr
  have HN := hid hn
  have n63 : (n : Int) ≤ 9223372036854775807 := by have : maxLen ≤ 9223372036854775807 := by decide
                                                   omega
  clear hg hn hr hn63
  go_enter Tryz.func7, Tryz.ntmps7
  go_wp2_with fail
  obtain ⟨B, hB⟩ : ∃ B, w.heap.size = B := ⟨_, rfl⟩
  rw [hB] at HS0
  rw [hB]
  clear hB
  generalize w.alloc (.cells #[.int .i64 g, .slice ao n cap] 24) = W1 at HS0 ⊢
  go_loopg [8] n (fun q i wr => ∃ t : Nat, t ≤ n ∧ q = n - t ∧ i = .int .i64 (t : Int) ∧ Hid (StW w wr B g (.slice ao n cap)))
  case atStart => exact ⟨0, by omega, rfl, rfl, HS0⟩
  case round =>
    clear HS0
    obtain ⟨t, htn, rfl, rfl, HS⟩ := hrel
    by_cases htl : t < n
    · obtain ⟨l, hl⟩ : ∃ l, c.layers[t]? = some l := ⟨c.layers[t]'(by rw [HN.out]; exact htl), by simp⟩
      obtain ⟨b, off, rfl, hcc⟩ := HR.out.kept HS.out.bel (by intro e; have := HN.out; rw [e] at this; simp at this; omega)
      obtain ⟨x0, x1, _, _⟩ := hcc t l hl
      rw [Nat.mul_comm 2 t] at x0 x1
      obtain ⟨lg, hlg⟩ : ∃ x, l.log = x := ⟨_, rfl⟩
      rw [hlg] at x0
      have t0 : (0 : Int) ≤ (t : Int) := by omega
      have t1 : (t : Int) < (n : Int) := by omega
      have HAL := hid (fun v => HS.out.next ((Below.refl wr.heap.size wr).alloc (Nat.le_refl _) (.cells #[.int .i64 lg, v] 50)))
      clear hcc hl hlg
      by_cases h2 : (2 : Int) < lg
      · go_wp2_with fail
        go_ret
        exact ⟨false, rfl, fun h => absurd h Bool.false_ne_true, (HAL.out _).bel⟩
      · go_wp2_with fail
        go_roundg (n - (t + 1))
        case measure => go_light; omega
        case rel => exact ⟨t + 1, by omega, rfl, by go_num, hid (HAL.out _)⟩
    · have t1 : ¬ ((t : Int) < (n : Int)) := by omega
      obtain ⟨z0, z1, zl⟩ := HS.out.box
      go_wp2_with fail
      refine (HC.out _ HS.out.bel).mono ?_
      rintro e w1 ⟨y, rfl, hy, hb⟩
      have HS1 := hid (HS.out.next hb)
      have HY := hid hy
      clear hb hy z0 z1 zl HS
      obtain ⟨z0, z1, zl⟩ := HS1.out.box
      by_cases hy0 : y = 0
      · subst hy0
        have HRT := hid (checkE_zero.1 HY.out)
        go_wp2_with fail
        go_ret
        exact ⟨_, rfl, fun _ => HRT.out, HS1.out.bel⟩
      · have e1 : (y == 0) = false := beq_eq_false_iff_ne.2 hy0
        go_wp2_with fail
        go_ret
        exact ⟨false, rfl, fun h => absurd h Bool.false_ne_true, HS1.out.bel⟩
/-- Below a world that grew, step by step. -/
theorem bel_alloc {X Y : World} (o : Obj) (h : Below X.heap.size X Y) : Below X.heap.size X (Y.alloc o) := h.alloc h.size o
theorem bel_trans {X Y Z : World} (hz : Below Y.heap.size Y Z) (h : Below X.heap.size X Y) : Below X.heap.size X Z := h.trans (hz.mono h.size)
theorem bel_drew {X Y : World} (h : Below X.heap.size X Y) : Below X.heap.size X Y.drew := h.drew
theorem row_pair (w : World) (x y : Int) (t : TypeId) : Row (w.alloc (.cells #[.int .u64 x, .int .u64 y] t)) w.heap.size 0 2 (pr x y) := fun j hj => by
  rw [Nat.zero_add, World.cell?_alloc_new]
  match j, hj with
  | 0, _ => rfl
  | 1, _ => rfl
theorem row_new2 {w : World} {n : Nat} {x y : Int} {t : TypeId} (h : n = w.heap.size) : Row (w.alloc (.cells #[.int .u64 x, .int .u64 y] t)) n 0 2 (pr x y) := by
  subst h
  exact row_pair w x y t
theorem row_old2 {w : World} {n : Nat} {f : Nat → Int} (o : Obj) (h : Row w n 0 2 f) : Row (w.alloc o) n 0 2 f := h.kept (bel_alloc o (Below.refl _ w)) (h.lt (by omega))
theorem row_bel2 {Y Z : World} {n : Nat} {f : Nat → Int} (hb : Below Y.heap.size Y Z) (h : Row Y n 0 2 f) : Row Z n 0 2 f := h.kept hb (h.lt (by omega))
theorem crow_old {w : World} {ao : Option Addr} {ls : List LQ} {A : Nat → Option Addr} {C : Nat → Nat} (o : Obj) (h : CRow w ao ls A C) : CRow (w.alloc o) ao ls A C := h.kept (bel_alloc o (Below.refl _ w))
theorem keep_cell {W W' : World} {a : Addr} {v : Value} (h : W.cell? a = some v) (hb : Below W.heap.size W W') : W'.cell? a = some v := (hb.cell (World.block_lt_of_cell? W _ h)).trans h
theorem row_four (w : World) (t : TypeId) : Row (w.alloc (.cells #[.int .u64 5, .int .u64 6, .int .u64 7, .int .u64 8] t)) w.heap.size 0 4 dr4 := fun j hj => by
  rw [Nat.zero_add, World.cell?_alloc_new]
  match j, hj with
  | 0, _ => rfl
  | 1, _ => rfl
  | 2, _ => rfl
  | 3, _ => rfl

end Go.Proofs.YtnnnlalhhhhaeaaGreatDoor

/-
  A contract of slices.Equal at numbers of 64 bits, where both lists have the same numbers; nothing is written.
-/
namespace Go.Proofs.YtnnnlalhhhhaeaaGreatDoor
open Go.RowKit
set_option linter.unusedVariables false
attribute [local go_sem ↓] Go.wp_at_zero Go.wp_at_succ

set_option maxHeartbeats 2000000 in
set_option maxRecDepth 100000 in
theorem equal_ok (a0 a1 : Option Addr) (n c0 c1 : Nat) (f g : Nat → Int) (w : World) (hn : n ≤ 100000) (p0 : PRow w a0 n f) (p1 : PRow w a1 n g) (e : ∀ j, j < n → f j = g j) :
    Calls Tryz.prog 11 #[.slice a0 n c0, .slice a1 n c1] w fun e w' => e = .returned (.bool true) ∧ Below w.heap.size w w' := by
  have H0 := hid p0
  have H1 := hid (p1.congr fun j hj => (e j hj).symm)
  clear p0 p1 e
  go_enter Tryz.func11, Tryz.ntmps11
  go_wp2_with fail
  go_loopg [13] n (fun q i wr => ∃ k : Nat, k ≤ n ∧ q = n - k ∧ i = .int .i64 (k : Int) ∧ Hid (PRow wr a0 n f) ∧ Hid (PRow wr a1 n f) ∧ Hid (Below w.heap.size w wr))
  case atStart => exact ⟨0, by omega, rfl, rfl, H0, H1, hid (Below.refl _ _)⟩
  case round =>
    clear H0 H1
    obtain ⟨k, hk, rfl, rfl, H0, H1, HB⟩ := hrel
    by_cases hlt : k < n
    · obtain ⟨b1, o1, rfl, r1⟩ := H0.out (by omega)
      obtain ⟨b2, o2, rfl, r2⟩ := H1.out (by omega)
      have c1 := r1 k hlt
      have c2 := r2 k hlt
      clear r1 r2
      obtain ⟨a, ha⟩ : ∃ a, f k = a := ⟨_, rfl⟩
      rw [ha] at c1 c2
      clear ha
      have k0 : (0 : Int) ≤ (k : Int) := by omega
      have k1 : (k : Int) < (n : Int) := by omega
      go_wp2_with fail
      go_region_with (first | fail)
      all_goals (go_wp2_with fail)
      all_goals (go_roundg (n - (k + 1)))
      all_goals first | (go_light; omega) | (exact ⟨k + 1, by omega, rfl, by go_num, hid H0.out.drew, hid H1.out.drew, hid HB.out.drew⟩)
    · have e : k = n := by omega
      subst e
      go_wp2_with fail
      go_ret
      exact ⟨rfl, HB.out⟩

end Go.Proofs.YtnnnlalhhhhaeaaGreatDoor

/-
  The whole's own tiny circuit and what is said of it: it is proved without asking, and a wrong output is refused.
-/
namespace Go.Proofs.YtnnnlalhhhhaeaaGreatDoor
open Go.RowKit
set_option linter.unusedVariables false
attribute [local go_sem ↓] Go.wp_at_zero Go.wp_at_succ

def topQ : CQ := ⟨1, [⟨1, [⟨true, 0, 1⟩, ⟨false, 0, 1⟩]⟩, ⟨0, [⟨true, 0, 1⟩]⟩]⟩
theorem top_right : topQ.right := by
  refine ⟨by decide, by decide, by decide, ⟨by decide, by decide, ?_⟩, ⟨by decide, by decide, ?_⟩, trivial⟩
  · intro q hq
    simp at hq
    rcases hq with rfl | rfl <;> exact ⟨by decide, by decide⟩
  · intro q hq
    simp at hq
    subst hq
    exact ⟨by decide, by decide⟩
/-- Its only output. -/
theorem top_out : valsQ topQ (pr 3 4) 2 0 = 84 := by kernel_rfl
theorem top_lg0 : (partsQ topQ).lg 0 = 0 := by decide
theorem top_lg1 : 0 < (partsQ topQ).lg 1 := by decide
theorem top_ends : endsQ topQ 2 1 := by unfold endsQ; decide
def one1 (x : Int) (_ : Nat) : Int := x
theorem Nums_one1 {x : Int} (h0 : 0 ≤ x) (h1 : x ≤ 18446744073709551615) : Nums (one1 x) := fun _ => ⟨h0, h1⟩
theorem row_one (w : World) (x : Int) (t : TypeId) : Row (w.alloc (.cells #[.int .u64 x] t)) w.heap.size 0 1 (one1 x) := fun j hj => by
  rw [Nat.zero_add, World.cell?_alloc_new]
  match j, hj with
  | 0, _ => rfl
theorem row_new1 {w : World} {n : Nat} {x : Int} {t : TypeId} (h : n = w.heap.size) : Row (w.alloc (.cells #[.int .u64 x] t)) n 0 1 (one1 x) := by
  subst h
  exact row_one w x t
theorem row_old1 {w : World} {n : Nat} {f : Nat → Int} (o : Obj) (h : Row w n 0 1 f) : Row (w.alloc o) n 0 1 f := h.kept (bel_alloc o (Below.refl _ w)) (h.lt (by omega))
theorem row_bel1 {Y Z : World} {n : Nat} {f : Nat → Int} (hb : Below Y.heap.size Y Z) (h : Row Y n 0 1 f) : Row Z n 0 1 f := h.kept hb (h.lt (by omega))
/-- The proof of it holds for 84, and not for 85. -/
theorem top_just (p : PQ) (hp : p = fiatP topQ 2 1 (pr 3 4)) (D : Nat → Int) (x : Int) (inp : Nat → K) (h : (partsQ topQ).holds D p.told (ofK (evS (fun j => kk (one1 x j)) (fun j => kk (D j)) ((partsQ topQ).lg 0))) inp) : kk x = kk 84 := by
  subst hp
  have h2 := first_just top_right (pr 3 4) _ D _ inp top_lg1 h
  have h3 := congrArg kk h2
  rw [kk_ofK, kk_ofK, top_lg0, evS_zero] at h3
  unfold Parts.tru at h3
  rw [top_lg0, evS_zero] at h3
  have h4 : valsK topQ (pr 3 4) 0 0 = kk 84 := by
    show kk (valsQ topQ (pr 3 4) 2 0) = _
    rw [top_out]
  rw [h4] at h3
  exact h3
theorem top_ne : kk 85 ≠ kk 84 := by decide
theorem top_val (j : Nat) (hj : j < 1) : valsQ topQ (pr 3 4) 2 j = one1 84 j := by
  obtain rfl : j = 0 := by omega
  exact top_out
theorem tkK_congr (g : Nat → K) (n : Nat) {f f' : Nat → Int} (h : ∀ j, j < n → kk (f j) = kk (f' j)) : tkK g n f = tkK g n f' := by
  unfold tkK
  rw [takesK_congr n n h]
theorem top_askG : askG topQ 2 1 (pr 3 4) (one1 84) = askG topQ 2 1 (pr 3 4) (valsQ topQ (pr 3 4) 2) := by
  unfold askG
  exact tkK_congr _ 1 fun j hj => by rw [top_val j hj]
theorem top_yes : (partsQ topQ).holds (fiatD topQ 2 1 (pr 3 4) (one1 84) (fiatP topQ 2 1 (pr 3 4))) (fiatP topQ 2 1 (pr 3 4)).told (ofK (evS (fun j => kk (one1 84 j)) (fun j => kk (fiatD topQ 2 1 (pr 3 4) (one1 84) (fiatP topQ 2 1 (pr 3 4)) j)) ((partsQ topQ).lg 0))) (fun j => kk (pr 3 4 j)) := by
  have h := fiat_yes top_right 2 1 (pr 3 4)
  have e : fiatD topQ 2 1 (pr 3 4) (valsQ topQ (pr 3 4) topQ.layers.length) (fiatP topQ 2 1 (pr 3 4)) = fiatD topQ 2 1 (pr 3 4) (one1 84) (fiatP topQ 2 1 (pr 3 4)) := by
    unfold fiatD ask1
    rw [top_askG]; rfl
  rw [e] at h
  rw [top_lg0, evS_zero] at h ⊢
  have e2 : valsQ topQ (pr 3 4) topQ.layers.length 0 = one1 84 0 := top_val 0 (by omega)
  rw [e2] at h
  exact h

set_option maxHeartbeats 2000000 in
set_option maxRecDepth 100000 in
theorem ttiny_any (w : World) :
    Calls Tryz.prog 13 #[] w fun e w' => ∃ (b : Nat) (A : Nat → Option Addr) (C : Nat → Nat), e = .returned (.agg #[.int .i64 1, .slice (some ⟨b, 0, none⟩) 2 2]) ∧ CRow w' (some ⟨b, 0, none⟩) topQ.layers A C ∧ Below w.heap.size w w' := by
  go_enter Tryz.func13, Tryz.ntmps13
  go_wp2_with fail
  refine bodyPost_ret (results_circ1 rfl rfl (by rw [World.cell?_alloc_old _ _ _ (by simp <;> omega), World.cell?_alloc_old _ _ _ (by simp <;> omega), World.cell?_alloc_old _ _ _ (by simp <;> omega), World.cell?_alloc_new]; rfl) (by rw [World.cell?_alloc_old _ _ _ (by simp <;> omega), World.cell?_alloc_old _ _ _ (by simp <;> omega), World.cell?_alloc_old _ _ _ (by simp <;> omega), World.cell?_alloc_new]; rfl)) rfl ?_
  refine ⟨w.heap.size + 1 + 1 + 1, fun i => if i = 0 then some ⟨w.heap.size + 1, 0, none⟩ else some ⟨w.heap.size + 1 + 1, 0, none⟩, fun i => if i = 0 then 2 else 1, rfl, ?_, ((((Below.refl w.heap.size w).alloc (Nat.le_refl _) _).alloc (by simp) _).alloc (by simp; omega) _).alloc (by simp; omega) _⟩
  generalize hO1 : Obj.cells #[Value.int .i64 1, .slice (some ⟨w.heap.size + 1 + 1 + 1, 0, none⟩) 2 2] 24 = o1
  have s1 : (w.alloc o1).heap.size = w.heap.size + 1 := by simp
  generalize w.alloc o1 = w1 at s1 ⊢
  generalize hO2 : Obj.cells #[Value.bool true, .int .i64 0, .int .i64 1, .bool false, .int .i64 0, .int .i64 1] 52 = o2
  have s2 : (w1.alloc o2).heap.size = w.heap.size + 1 + 1 := by simp [s1]
  have g : ∀ j, (w1.alloc o2).cell? ⟨w.heap.size + 1, j, none⟩ = (#[Value.bool true, .int .i64 0, .int .i64 1, .bool false, .int .i64 0, .int .i64 1] : Array Value)[j]? := fun j => by
    rw [← hO2, ← s1, World.cell?_alloc_new]
  generalize w1.alloc o2 = w2 at s2 g ⊢
  generalize hO3 : Obj.cells #[Value.bool true, .int .i64 0, .int .i64 1] 52 = o3
  have s3 : (w2.alloc o3).heap.size = w.heap.size + 1 + 1 + 1 := by simp [s2]
  have k : ∀ j, (w2.alloc o3).cell? ⟨w.heap.size + 1 + 1, j, none⟩ = (#[Value.bool true, .int .i64 0, .int .i64 1] : Array Value)[j]? := fun j => by
    rw [← hO3, ← s2, World.cell?_alloc_new]
  have g3 : ∀ j, (w2.alloc o3).cell? ⟨w.heap.size + 1, j, none⟩ = (#[Value.bool true, .int .i64 0, .int .i64 1, .bool false, .int .i64 0, .int .i64 1] : Array Value)[j]? := fun j => by
    rw [World.cell?_alloc_old _ _ _ (by show w.heap.size + 1 ≠ w2.heap.size; omega)]; exact g j
  generalize w2.alloc o3 = w3 at s3 k g3 ⊢
  have hl : ∀ j, (w3.alloc (Obj.cells #[Value.int .i64 1, .slice (some ⟨w.heap.size + 1, 0, none⟩) 2 2, .int .i64 0, .slice (some ⟨w.heap.size + 1 + 1, 0, none⟩) 1 1] 50)).cell? ⟨w.heap.size + 1 + 1 + 1, j, none⟩ = (#[Value.int .i64 1, .slice (some ⟨w.heap.size + 1, 0, none⟩) 2 2, .int .i64 0, .slice (some ⟨w.heap.size + 1 + 1, 0, none⟩) 1 1] : Array Value)[j]? := fun j => by
    rw [← s3, World.cell?_alloc_new]
  have g' : ∀ j o, (w3.alloc o).cell? ⟨w.heap.size + 1, j, none⟩ = (#[Value.bool true, .int .i64 0, .int .i64 1, .bool false, .int .i64 0, .int .i64 1] : Array Value)[j]? := fun j o => by
    rw [World.cell?_alloc_old _ _ _ (by show w.heap.size + 1 ≠ w3.heap.size; omega)]; exact g3 j
  have k' : ∀ j o, (w3.alloc o).cell? ⟨w.heap.size + 1 + 1, j, none⟩ = (#[Value.bool true, .int .i64 0, .int .i64 1] : Array Value)[j]? := fun j o => by
    rw [World.cell?_alloc_old _ _ _ (by show w.heap.size + 1 + 1 ≠ w3.heap.size; omega)]; exact k j
  intro _
  refine ⟨_, _, rfl, fun i l hi => ?_⟩
  match i, hi with
  | 0, hi =>
    obtain rfl : (⟨1, [⟨true, 0, 1⟩, ⟨false, 0, 1⟩]⟩ : LQ) = l := by simpa [topQ] using hi
    refine ⟨(hl 0).trans rfl, (hl 1).trans rfl, fun _ => ⟨_, _, rfl, fun j q hq => ?_⟩, Nat.le_refl 2⟩
    match j, hq with
    | 0, hq =>
      obtain rfl : (⟨true, 0, 1⟩ : GQ) = q := by simpa using hq
      exact ⟨(g' 0 _).trans rfl, (g' 1 _).trans rfl, (g' 2 _).trans rfl⟩
    | 1, hq =>
      obtain rfl : (⟨false, 0, 1⟩ : GQ) = q := by simpa using hq
      exact ⟨(g' 3 _).trans rfl, (g' 4 _).trans rfl, (g' 5 _).trans rfl⟩
    | j + 2, hq => simp at hq
  | 1, hi =>
    obtain rfl : (⟨0, [⟨true, 0, 1⟩]⟩ : LQ) = l := by simpa [topQ] using hi
    refine ⟨(hl 2).trans rfl, (hl 3).trans rfl, fun _ => ⟨_, _, rfl, fun j q hq => ?_⟩, Nat.le_refl 1⟩
    match j, hq with
    | 0, hq =>
      obtain rfl : (⟨true, 0, 1⟩ : GQ) = q := by simpa using hq
      exact ⟨(k' 0 _).trans rfl, (k' 1 _).trans rfl, (k' 2 _).trans rfl⟩
    | j + 1, hq => simp at hq
  | i + 2, hi => simp [topQ] at hi

set_option maxHeartbeats 8000000 in
set_option maxRecDepth 100000 in
theorem said_any (w : World) (ht : Tab w) :
    Calls Tryz.prog 4 #[] w fun e w' => e = .returned (.bool true) ∧ Below w.heap.size w w' := by
  have HT := hid (fun W (h : Below w.heap.size w W) => ht.kept h ht.1)
  clear ht
  go_enter Tryz.func4, Tryz.ntmps4
  go_wp2_with fail
  refine (ttiny_any w).mono ?_
  rintro e w1 ⟨b1, A1, C1, rfl, hc1, hb1⟩
  have HB1 := hid hb1
  have HC1 := hid hc1
  clear hc1 hb1
  go_wp2_with fail
  have HPV : Hid (Calls Tryz.prog 9 #[.agg #[.int .i64 1, .slice (some ⟨b1, 0, none⟩) 2 2], .slice (some ⟨w1.heap.size, 0, none⟩) 2 2] (w1.alloc (.cells #[.int .u64 3, .int .u64 4] 42)) fun e w' => fproveOut topQ (pr 3 4) 2 2 1 (w1.alloc (.cells #[.int .u64 3, .int .u64 4] 42)) e w') := hid (by
    have hal := (Below.refl w1.heap.size w1).alloc (Nat.le_refl _) (.cells #[.int .u64 3, .int .u64 4] 42)
    exact fpv_ok topQ 1 b1 0 2 2 A1 C1 w1.heap.size 0 2 2 1 (pr 3 4) _ rfl rfl (HC1.out.kept hal) top_right (shl_pow (k := 1) (by omega)) (by decide) (by decide) (row_pair w1 3 4 _) (Nums_pr (by omega) (by omega) (by omega) (by omega)) (HT.out _ (bel_trans hal HB1.out)))
  refine (HPV.out).mono ?_
  rintro e w2 ⟨dk, PB, m, rfl, hrow, hpf, hlow, hfr, hb2⟩
  have hal := (Below.refl w2.heap.size w2).alloc (Nat.le_refl _) (.cells #[.slice (some ⟨PB, 0, none⟩) 2 2] 36)
  have HB3 := hid (bel_trans hal (bel_trans hb2 (bel_alloc _ HB1.out)))
  have HP3 := hid (hpf.kept hal)
  have HD3 : Hid (Row (w2.alloc (.cells #[.slice (some ⟨PB, 0, none⟩) 2 2] 36)) dk 0 1 (valsQ topQ (pr 3 4) 2)) := hid (hrow.kept hal (hrow.lt (by omega)))
  have HQ3 : Hid ((w2.alloc (.cells #[.slice (some ⟨PB, 0, none⟩) 2 2] 36)).cell? ⟨w2.heap.size, 0, none⟩ = some (.slice (some ⟨PB, 0, none⟩) 2 2)) := hid (by rw [World.cell?_alloc_new]; rfl)
  clear hrow hpf hlow hfr hb2 hal HB1 HC1 HPV
  go_wp2_with fail
  obtain ⟨Q, hQ⟩ : ∃ x, w2.heap.size = x := ⟨_, rfl⟩
  rw [hQ] at HQ3
  rw [hQ]
  clear hQ
  generalize w2.alloc (.cells #[.slice (some ⟨PB, 0, none⟩) 2 2] 36) = W3 at HB3 HP3 HD3 HQ3 ⊢
  have HV : Hid (∀ (q : Int) (r : Bool) (W' : World) (x1 x2 bT : Nat) (A : Nat → Option Addr) (C : Nat → Nat), (q = 84 ∧ r = true ∨ q = 85 ∧ r = false) → CRow W' (some ⟨bT, 0, none⟩) topQ.layers A C → Row W' x1 0 2 (pr 3 4) → Row W' x2 0 1 (one1 q) → Below W3.heap.size W3 W' → Calls Tryz.prog 10 #[.agg #[.int .i64 1, .slice (some ⟨bT, 0, none⟩) 2 2], .slice (some ⟨x1, 0, none⟩) 2 2, .slice (some ⟨x2, 0, none⟩) 1 1, .agg #[.slice (some ⟨PB, 0, none⟩) 2 2]] W' fun e w'' => e = .returned (.tuple #[.bool r, .int .i64 0]) ∧ Below W3.heap.size W3 w'') := hid (fun q r W' x1 x2 bT A C hq hcr h1 h2 hb => by
    have hq2 : 0 ≤ q ∧ q ≤ 18446744073709551615 := by rcases hq with ⟨h, _⟩ | ⟨h, _⟩ <;> omega
    refine (fvf_ok topQ 1 bT 0 2 2 A C x1 0 2 2 x2 0 1 1 (pr 3 4) (one1 q) (some ⟨PB, 0, none⟩) 2 2 (fiatP topQ 2 1 (pr 3 4)) m W' rfl rfl hcr top_right rfl (HP3.out.kept hb) (fiatP_nums _ _ _ _) (fiatP_shaped _ _ _ _) top_ends h1 (Nums_pr (by omega) (by omega) (by omega) (by omega)) h2 (Nums_one1 hq2.1 hq2.2) (HT.out _ (bel_trans hb HB3.out))).mono ?_
    rintro e w'' ⟨r', x, rfl, ⟨rfl, hr'⟩, hb'⟩
    refine ⟨?_, bel_trans hb' hb⟩
    rcases hq with ⟨rfl, rfl⟩ | ⟨rfl, rfl⟩
    · rw [hr'.2 top_yes]
    · cases r' with
      | false => rfl
      | true => exact absurd (top_just _ rfl _ _ _ (hr'.1 rfl)) top_ne)
  have hq := HQ3.out
  have HBS := hid (Below.refl W3.heap.size W3)
  go_cut [4, 5] (fun a6 a7 wx => a6 = .bool true ∧ a7 = .int .i64 0 ∧ Hid (Below W3.heap.size W3 wx))
  case first =>
    go_region_held3 (fun W => W.cell? ⟨Q, 0, none⟩ = some (.slice (some ⟨PB, 0, none⟩) 2 2)) (first | assumption | (refine keep_cell hq ?_; repeat (first | exact HBS.out | exact hbV | apply bel_alloc | refine bel_trans hbT ?_ | apply bel_drew))) (first
      | (go_at_call 13; refine (ttiny_any _).mono ?_; rintro e wT ⟨bT, AT, CT, rfl, hcT, hbT⟩)
      | (go_at_call 10; refine (HV.out 84 true _ _ _ _ AT CT (.inl ⟨rfl, rfl⟩) (by repeat (first | exact hcT | apply crow_old)) (by repeat (first | exact row_new2 (by simp) | apply row_old2 | refine row_bel2 hbT ?_)) (by repeat (first | exact row_new1 (by simp) | apply row_old1 | refine row_bel1 hbT ?_)) (by repeat (first | exact HBS.out | apply bel_alloc | refine bel_trans hbT ?_ | apply bel_drew))).mono ?_; rintro e wV ⟨rfl, hbV⟩))
    all_goals (go_wp2_with fail)
    all_goals go_meet
    all_goals exact ⟨rfl, rfl, hid hbV⟩
  case rest =>
    clear HBS
    obtain ⟨rfl, rfl, HBS⟩ := hcut
    go_wp2_with fail
    go_cut [6, 7] (fun a8 a9 wx => a8 = .bool false ∧ a9 = .int .i64 0 ∧ Hid (Below W3.heap.size W3 wx))
    case first =>
      go_region_held3 (fun W => W.cell? ⟨Q, 0, none⟩ = some (.slice (some ⟨PB, 0, none⟩) 2 2)) (first | assumption | (refine keep_cell hq ?_; repeat (first | exact HBS.out | exact hbV | apply bel_alloc | refine bel_trans hbT ?_ | apply bel_drew))) (first
        | (go_at_call 13; refine (ttiny_any _).mono ?_; rintro e wT ⟨bT, AT, CT, rfl, hcT, hbT⟩)
        | (go_at_call 10; refine (HV.out 85 false _ _ _ _ AT CT (.inr ⟨rfl, rfl⟩) (by repeat (first | exact hcT | apply crow_old)) (by repeat (first | exact row_new2 (by simp) | apply row_old2 | refine row_bel2 hbT ?_)) (by repeat (first | exact row_new1 (by simp) | apply row_old1 | refine row_bel1 hbT ?_)) (by repeat (first | exact HBS.out | apply bel_alloc | refine bel_trans hbT ?_ | apply bel_drew))).mono ?_; rintro e wV ⟨rfl, hbV⟩))
      all_goals (go_wp2_with fail)
      all_goals go_meet
      all_goals exact ⟨rfl, rfl, hid hbV⟩
    case rest =>
      clear HBS
      obtain ⟨rfl, rfl, HBS⟩ := hcut
      have HD4 := hid (HD3.out.kept HBS.out (HD3.out.lt (by omega)))
      have HB4 := hid (bel_trans HBS.out HB3.out)
      clear HV HD3 HB3 HBS HQ3 hq HP3
      have HEQ : Hid (∀ x1, Row (wc.alloc (.cells #[.int .u64 84] 42)) x1 0 1 (one1 84) → Calls Tryz.prog 11 #[.slice (some ⟨dk, 0, none⟩) 1 1, .slice (some ⟨x1, 0, none⟩) 1 1] (wc.alloc (.cells #[.int .u64 84] 42)) fun e w' => e = .returned (.bool true) ∧ Below wc.heap.size wc w') := hid (fun x1 hx => by
        have hal := (Below.refl wc.heap.size wc).alloc (Nat.le_refl _) (.cells #[.int .u64 84] 42)
        refine (equal_ok (some ⟨dk, 0, none⟩) (some ⟨x1, 0, none⟩) 1 1 1 _ _ _ (by omega) (PRow.of (HD4.out.kept hal (HD4.out.lt (by omega)))) (PRow.of hx) top_val).mono ?_
        rintro e w' ⟨rfl, hb⟩
        exact ⟨rfl, hal.trans (hb.mono hal.size)⟩)
      go_wp2_with (go_at_call 11; refine (HEQ.out _ (row_one wc 84 _)).mono ?_; rintro e w5 ⟨rfl, hb5⟩)
      go_ret
      exact ⟨rfl, bel_trans hb5 HB4.out⟩

/-- What the laws of the whole carry: the circuit, inputs, draws, values. -/
structure TpS (w W : World) (X : Nat) (g : Int) (v : Value) (BX N : Nat) (x : Nat → Int) (BD q : Nat) (d : Nat → Int) (V n dk M : Nat) (y : Nat → Int) : Prop where
  st : StW w W X g v
  x : Row W BX 0 N x
  d : Row W BD 0 q d
  cv : W.cell? ⟨V, n, none⟩ = some (.slice (some ⟨dk, 0, none⟩) M M)
  y : Row W dk 0 M y
  hN : 1 ≤ N
  hq : 1 ≤ q
  hM : 1 ≤ M
theorem TpS.next {w W W' : World} {X : Nat} {g : Int} {v : Value} {BX N : Nat} {x : Nat → Int} {BD q : Nat} {d : Nat → Int} {V n dk M : Nat} {y : Nat → Int} (h : TpS w W X g v BX N x BD q d V n dk M y) (hb : Below W.heap.size W W') : TpS w W' X g v BX N x BD q d V n dk M y :=
  ⟨h.st.next hb, h.x.kept hb (h.x.lt h.hN), h.d.kept hb (h.d.lt h.hq), keep_cell h.cv hb, h.y.kept hb (h.y.lt h.hM), h.hN, h.hq, h.hM⟩
/-- Four cells. -/
abbrev FourT (X V n Q : Nat) (u v d p : Value) (W : World) : Prop := W.cell? ⟨X, 0, none⟩ = some u ∧ W.cell? ⟨X, 1, none⟩ = some v ∧ W.cell? ⟨V, n, none⟩ = some d ∧ W.cell? ⟨Q, 0, none⟩ = some p
theorem FourT.kept {X V n Q : Nat} {u v d p : Value} {W W' : World} (h : FourT X V n Q u v d p W) (hb : Below W.heap.size W W') : FourT X V n Q u v d p W' := ⟨keep_cell h.1 hb, keep_cell h.2.1 hb, keep_cell h.2.2.1 hb, keep_cell h.2.2.2 hb⟩
theorem need_pos {c : CQ} (hc : c.right) : 1 ≤ needQ c := by
  have h := at_fits (c := c) (j := 0) (List.length_pos_iff.2 hc.some)
  omega

end Go.Proofs.YtnnnlalhhhhaeaaGreatDoor

/-
  A contract of tallyref's SameProof, of two proofs that tell the same; nothing that was there is written.
-/
namespace Go.Proofs.YtnnnlalhhhhaeaaGreatDoor
open Go.RowKit
set_option linter.unusedVariables false
attribute [local go_sem ↓] Go.wp_at_zero Go.wp_at_succ

set_option maxHeartbeats 1000000 in
theorem sp11_ok (a0 a1 : Option Addr) (n c0 c1 : Nat) (f : Nat → Int) (w : World) (hn : n ≤ 100000) (p0 : PRow w a0 n f) (p1 : PRow w a1 n f) :
    Calls Tryz.prog 31 #[.slice a0 n c0, .slice a1 n c1] w fun e w' => e = .returned (.bool true) ∧ Below w.heap.size w w' := by
  have HE := hid (equal_ok a0 a1 n c0 c1 f f w hn p0 p1 (fun _ _ => rfl))
  clear p0 p1
  go_enter Tryz.func31, Tryz.ntmps31
  go_wp2_with (go_at_call 11; refine (HE.out).mono ?_; rintro e w1 ⟨rfl, hb⟩; have HB := hid hb; clear hb)
  go_ret
  exact ⟨rfl, HB.out⟩
set_option maxHeartbeats 4000000 in
set_option maxRecDepth 100000 in
theorem spf_ok (a0 a1 : Option Addr) (m c0 c1 : Nat) (A A2 : Nat → Option Addr) (L C C2 : Nat → Nat) (F : Nat → Nat → Int) (w : World) (hm : m ≤ 1000) (h0 : LRow w a0 m A L C F) (h1 : LRow w a1 m A2 L C2 F) (hL : ∀ i, i < m → L i ≤ 100000) :
    Calls Tryz.prog 30 #[.slice a0 m c0, .slice a1 m c1, .func (.func 31) #[] #[]] w fun e w' => e = .returned (.bool true) ∧ Below w.heap.size w w' := by
  have H0 := hid h0
  have H1 := hid h1
  have HL := hid hL
  clear h0 h1 hL
  go_enter Tryz.func30, Tryz.ntmps30
  go_wp2_with fail
  go_loopg [17] m (fun q i wr => ∃ k : Nat, k ≤ m ∧ q = m - k ∧ i = .int .i64 (k : Int) ∧ Hid (LRow wr a0 m A L C F) ∧ Hid (LRow wr a1 m A2 L C2 F) ∧ Hid (Below w.heap.size w wr))
  case atStart => exact ⟨0, by omega, rfl, rfl, H0, H1, hid (Below.refl _ _)⟩
  case round =>
    clear H0 H1
    obtain ⟨k, hk, rfl, rfl, H0, H1, HB⟩ := hrel
    by_cases hlt : k < m
    · obtain ⟨b1, o1, rfl, r1⟩ := H0.out (by omega)
      obtain ⟨b2, o2, rfl, r2⟩ := H1.out (by omega)
      have c1 := (r1 k hlt).1
      have c2 := (r2 k hlt).1
      have HS := hid (sp11_ok (A k) (A2 k) (L k) (C k) (C2 k) (F k) wr (HL.out k hlt) (r1 k hlt).2 (r2 k hlt).2)
      clear r1 r2
      have k0 : (0 : Int) ≤ (k : Int) := by omega
      have k1 : (k : Int) < (m : Int) := by omega
      go_wp2_with (go_at_call 31; refine (HS.out).mono ?_; rintro e w1 ⟨rfl, hb⟩; have HB1 := hid hb; clear hb)
      go_roundg (m - (k + 1))
      case measure => go_light; omega
      case rel => exact ⟨k + 1, by omega, rfl, by go_num, hid (H0.out.kept HB1.out), hid (H1.out.kept HB1.out), hid (HB.out.trans (HB1.out.mono HB.out.size))⟩
    · have e : k = m := by omega
      subst e
      go_wp2_with fail
      go_ret
      exact ⟨rfl, HB.out⟩
/-- Two boxes. -/
theorem two_boxes (w : World) (u v x y : Value) (t t' : TypeId) : Below w.heap.size w ((w.alloc (.cells #[u, v] t)).alloc (.cells #[x, y] t')) ∧ Box2 ((w.alloc (.cells #[u, v] t)).alloc (.cells #[x, y] t')) w.heap.size u v ∧ Box2 ((w.alloc (.cells #[u, v] t)).alloc (.cells #[x, y] t')) (w.heap.size + 1) x y := by
  have h1 := Box2.new w u v t
  have e : (w.alloc (.cells #[u, v] t)).heap.size = w.heap.size + 1 := by simp
  have hb := (Below.refl w.heap.size w).alloc (Nat.le_refl _) (.cells #[u, v] t)
  generalize w.alloc (.cells #[u, v] t) = W1 at h1 e hb
  have hal := (Below.refl W1.heap.size W1).alloc (Nat.le_refl _) (.cells #[x, y] t')
  exact ⟨hb.trans (hal.mono hb.size), h1.kept hal, by rw [← e]; exact Box2.new W1 x y t'⟩
set_option maxHeartbeats 4000000 in
set_option maxRecDepth 100000 in
theorem sp1_ok (ra ra2 la la2 : Option Addr) (rn rc rc2 ln lc lc2 : Nat) (A A2 : Nat → Option Addr) (L C C2 : Nat → Nat) (F : Nat → Nat → Int) (f : Nat → Int) (w : World) (h1 : rn ≤ 1000) (h2 : ln ≤ 100000) (hL : ∀ i, i < rn → L i ≤ 100000) (r0 : LRow w ra rn A L C F) (r1 : LRow w ra2 rn A2 L C2 F) (p0 : PRow w la ln f) (p1 : PRow w la2 ln f) :
    Calls Tryz.prog 29 #[.agg #[.slice ra rn rc, .slice la ln lc], .agg #[.slice ra2 rn rc2, .slice la2 ln lc2]] w fun e w' => e = .returned (.bool true) ∧ Below w.heap.size w w' := by
  have HE := hid (fun W (h : Below w.heap.size w W) => equal_ok la la2 ln lc lc2 f f W h2 (p0.kept h) (p1.kept h) (fun _ _ => rfl))
  have HF := hid (fun W (h : Below w.heap.size w W) => spf_ok ra ra2 rn rc rc2 A A2 L C C2 F W h1 (r0.kept h) (r1.kept h) hL)
  obtain ⟨hb0, hx0, hx1⟩ := two_boxes w (.slice ra rn rc) (.slice la ln lc) (.slice ra2 rn rc2) (.slice la2 ln lc2) 75 75
  have HB0 := hid (And.intro hb0 (And.intro hx0 hx1))
  clear r0 r1 p0 p1 hL hb0
  obtain ⟨x0, x1, xl⟩ := hx0
  obtain ⟨y0, y1, yl⟩ := hx1
  go_enter Tryz.func29, Tryz.ntmps29
  go_wp2_with fail
  clear x0 x1 xl y0 y1 yl
  obtain ⟨X, hX⟩ : ∃ X, w.heap.size = X := ⟨_, rfl⟩
  have HBX : Hid (Below w.heap.size w ((w.alloc (.cells #[.slice ra rn rc, .slice la ln lc] 75)).alloc (.cells #[.slice ra2 rn rc2, .slice la2 ln lc2] 75)) ∧ Box2 ((w.alloc (.cells #[.slice ra rn rc, .slice la ln lc] 75)).alloc (.cells #[.slice ra2 rn rc2, .slice la2 ln lc2] 75)) X (.slice ra rn rc) (.slice la ln lc) ∧ Box2 ((w.alloc (.cells #[.slice ra rn rc, .slice la ln lc] 75)).alloc (.cells #[.slice ra2 rn rc2, .slice la2 ln lc2] 75)) (X + 1) (.slice ra2 rn rc2) (.slice la2 ln lc2)) := hid (by rw [← hX]; exact HB0.out)
  rw [hX]
  clear hX HB0
  generalize (w.alloc (.cells #[.slice ra rn rc, .slice la ln lc] 75)).alloc (.cells #[.slice ra2 rn rc2, .slice la2 ln lc2] 75) = W0 at HBX ⊢
  refine (HE.out _ HBX.out.1).mono ?_
  rintro e w1 ⟨rfl, hb⟩
  obtain ⟨x0, x1, xl⟩ := HBX.out.2.1.kept hb
  obtain ⟨y0, y1, yl⟩ := HBX.out.2.2.kept hb
  have HB1 := hid (HBX.out.1.trans (hb.mono HBX.out.1.size))
  clear hb
  go_wp2_with fail
  refine (HF.out _ HB1.out).mono ?_
  rintro e w2 ⟨rfl, hb⟩
  have HB2 := hid (HB1.out.trans (hb.mono HB1.out.size))
  clear hb
  go_wp2_with fail
  go_ret
  exact ⟨rfl, HB2.out⟩
set_option maxHeartbeats 4000000 in
set_option maxRecDepth 100000 in
theorem spp_ok (ap aq : Option Addr) (np cp cq : Nat) (p : PQ) (m m2 : PM) (w : World) (hp : p.n = np) (h1 : np ≤ 1000) (hb : ∀ j, j < np → p.rn j ≤ 1000 ∧ p.ln j ≤ 100000 ∧ ∀ i, i < p.rn j → p.rl j i ≤ 100000) (h0 : PfRow w ap p m) (h2 : PfRow w aq p m2) :
    Calls Tryz.prog 28 #[.slice ap np cp, .slice aq np cq, .func (.func 29) #[] #[]] w fun e w' => e = .returned (.bool true) ∧ Below w.heap.size w w' := by
  have H0 := hid h0
  have H2 := hid h2
  have HP := hid hp
  have HL := hid hb
  clear h0 h2 hp hb
  go_enter Tryz.func28, Tryz.ntmps28
  go_wp2_with fail
  go_loopg [17] np (fun q i wr => ∃ k : Nat, k ≤ np ∧ q = np - k ∧ i = .int .i64 (k : Int) ∧ Hid (Below w.heap.size w wr))
  case atStart => exact ⟨0, by omega, rfl, rfl, hid (Below.refl _ _)⟩
  case round =>
    obtain ⟨k, hk, rfl, rfl, HB⟩ := hrel
    by_cases hlt : k < np
    · obtain ⟨b1, o1, e1, r1⟩ := H0.out.kept HB.out (by rw [HP.out]; omega)
      obtain ⟨b2, o2, e2, r2⟩ := H2.out.kept HB.out (by rw [HP.out]; omega)
      subst e1
      subst e2
      obtain ⟨c0, c1, c2, c3⟩ := r1 k (by rw [HP.out]; exact hlt)
      obtain ⟨d0, d1, d2, d3⟩ := r2 k (by rw [HP.out]; exact hlt)
      rw [Nat.mul_comm 2 k] at c0 c1 d0 d1
      obtain ⟨l1, l2, l3⟩ := HL.out k hlt
      obtain ⟨rn, hrn⟩ : ∃ x, p.rn k = x := ⟨_, rfl⟩
      obtain ⟨ln, hln⟩ : ∃ x, p.ln k = x := ⟨_, rfl⟩
      obtain ⟨ra, hra⟩ : ∃ x, m.ra k = x := ⟨_, rfl⟩
      obtain ⟨rc, hrc⟩ : ∃ x, m.rc k = x := ⟨_, rfl⟩
      obtain ⟨la, hla⟩ : ∃ x, m.la k = x := ⟨_, rfl⟩
      obtain ⟨lc, hlc⟩ : ∃ x, m.lc k = x := ⟨_, rfl⟩
      obtain ⟨ra2, hra2⟩ : ∃ x, m2.ra k = x := ⟨_, rfl⟩
      obtain ⟨rc2, hrc2⟩ : ∃ x, m2.rc k = x := ⟨_, rfl⟩
      obtain ⟨la2, hla2⟩ : ∃ x, m2.la k = x := ⟨_, rfl⟩
      obtain ⟨lc2, hlc2⟩ : ∃ x, m2.lc k = x := ⟨_, rfl⟩
      rw [hra, hrn, hrc] at c0
      rw [hla, hln, hlc] at c1
      rw [hra2, hrn, hrc2] at d0
      rw [hla2, hln, hlc2] at d1
      rw [hra, hrn] at c2
      rw [hla, hln] at c3
      rw [hra2, hrn] at d2
      rw [hla2, hln] at d3
      rw [hrn] at l1 l3
      rw [hln] at l2
      have HS := hid (fun W (h : Below wr.heap.size wr W) => sp1_ok ra ra2 la la2 rn rc rc2 ln lc lc2 (m.A k) (m2.A k) (p.rl k) (m.C k) (m2.C k) (p.R k) (p.L k) W l1 l2 l3 (c2.kept h) (d2.kept h) (c3.kept h) (d3.kept h))
      clear r1 r2 c2 c3 d2 d3 l1 l2 l3 hrn hln hra hrc hla hlc hra2 hrc2 hla2 hlc2
      obtain ⟨hb0, hx0, hx1⟩ := two_boxes wr (.slice ra rn rc) (.slice la ln lc) (.slice ra2 rn rc2) (.slice la2 ln lc2) 75 75
      have HB0 := hid hb0
      have hal := (Below.refl wr.heap.size wr).alloc (Nat.le_refl _) (.cells #[.slice ra rn rc, .slice la ln lc] 75)
      have d0' := (hal.cell (World.block_lt_of_cell? wr _ d0)).trans d0
      have d1' := (hal.cell (World.block_lt_of_cell? wr _ d1)).trans d1
      clear hb0 hal
      obtain ⟨x0, x1, xl⟩ := hx0
      obtain ⟨y0, y1, yl⟩ := hx1
      have k0 : (0 : Int) ≤ (k : Int) := by omega
      have k1 : (k : Int) < (np : Int) := by omega
      go_wp2_with fail
      refine (HS.out _ HB0.out).mono ?_
      rintro e w1 ⟨rfl, hb⟩
      have HB1 := hid (HB.out.trans ((HB0.out.trans (hb.mono HB0.out.size)).mono HB.out.size))
      clear hb x0 x1 xl y0 y1 yl c0 c1 d0 d1 d0' d1'
      go_wp2_with fail
      go_roundg (np - (k + 1))
      case measure => go_light; omega
      case rel => exact ⟨k + 1, by omega, rfl, by go_num, HB1⟩
    · have e : k = np := by omega
      subst e
      have k1 : ¬ ((k : Int) < (k : Int)) := by omega
      go_wp2_with fail
      go_ret
      exact ⟨rfl, HB.out⟩
set_option maxHeartbeats 4000000 in
set_option maxRecDepth 100000 in
theorem sameproof_ok (ap aq : Option Addr) (np cp cq : Nat) (p : PQ) (m m2 : PM) (w : World) (hp : p.n = np) (h1 : np ≤ 1000) (hb : ∀ j, j < np → p.rn j ≤ 1000 ∧ p.ln j ≤ 100000 ∧ ∀ i, i < p.rn j → p.rl j i ≤ 100000) (h0 : PfRow w ap p m) (h2 : PfRow w aq p m2) :
    Calls Tryz.prog 12 #[.agg #[.slice ap np cp], .agg #[.slice aq np cq]] w fun e w' => e = .returned (.bool true) ∧ Below w.heap.size w w' := by
  have hb1 := ((Below.refl w.heap.size w).alloc (Nat.le_refl _) (.cells #[.slice ap np cp] 36)).alloc (by simp) (.cells #[.slice aq np cq] 36)
  have HE := hid (spp_ok ap aq np cp cq p m m2 _ hp h1 hb (h0.kept hb1) (h2.kept hb1))
  have x0 : ((w.alloc (.cells #[.slice ap np cp] 36)).alloc (.cells #[.slice aq np cq] 36)).cell? ⟨w.heap.size, 0, none⟩ = some (.slice ap np cp) := by rw [World.cell?_alloc_old _ _ _ (by simp), World.cell?_alloc_new]; rfl
  have x1 : ((w.alloc (.cells #[.slice ap np cp] 36)).alloc (.cells #[.slice aq np cq] 36)).cell? ⟨w.heap.size + 1, 0, none⟩ = some (.slice aq np cq) := by
    have e : (w.alloc (.cells #[.slice ap np cp] 36)).heap.size = w.heap.size + 1 := by simp
    rw [← e, World.cell?_alloc_new]; rfl
  have HB1 := hid hb1
  clear hb h0 h2 hp hb1
  go_enter Tryz.func12, Tryz.ntmps12
  go_wp2_with fail
  refine (HE.out).mono ?_
  rintro e w1 ⟨rfl, hb⟩
  have HB2 := hid (HB1.out.trans (hb.mono HB1.out.size))
  clear hb x0 x1
  go_wp2_with fail
  go_ret
  exact ⟨rfl, HB2.out⟩

end Go.Proofs.YtnnnlalhhhhaeaaGreatDoor

/-
  A contract of the law TopTexts, for every circuit and every list: it answers true.
-/
namespace Go.Proofs.YtnnnlalhhhhaeaaGreatDoor
open Go.RowKit Go.PlainAid
set_option linter.unusedVariables false
attribute [local go_sem ↓] Go.wp_at_zero Go.wp_at_succ

theorem texts_print {c : CQ} (h : c.right) (hl : (printQ c).length ≤ 4096) : parseE (printQ c) c 0 0 := .inr (.inr ⟨hl, c, text_print c (right_fits h), checkE_zero.2 h, rfl, fun _ => rfl, fun h => absurd rfl h⟩)
theorem texts_nil : ∃ k, textQ [] = .error k := ⟨_, rfl⟩
theorem texts_none {c : CQ} {a : Nat} {e : Int} (h : parseE [] c a e) : e = 3 := by
  rcases h with ⟨h1, _⟩ | ⟨_, _, _, h4⟩ | ⟨_, d, h2, _⟩
  · simp at h1
  · exact h4
  · obtain ⟨k, hk⟩ := texts_nil
    rw [hk] at h2
    cases h2
theorem shape_small {c : CQ} {n : Nat} (hc : c.right) (hn : c.layers.length = n) (p : PQ) (h : shapedQ c p) : ∀ j, j < n → p.rn j ≤ 1000 ∧ p.ln j ≤ 100000 ∧ ∀ i, i < p.rn j → p.rl j i ≤ 100000 := fun j hj => by
  obtain ⟨h1, h2, h3⟩ := h.2 j (by rw [h.1, hn]; exact hj)
  have h4 := parts_lg hc (j + 1)
  exact ⟨by omega, by omega, fun i hi => by rw [h3 i hi]; omega⟩
/-- What holds of the world all along: both circuits' boxes, the inputs. -/
structure TxS (w W : World) (X X2 : Nat) (g : Int) (v v2 : Value) (BX N : Nat) (f : Nat → Int) : Prop where
  st : StW w W X g v
  b2 : Box2 W X2 (.int .i64 g) v2
  x : Row W BX 0 N f
  N1 : 1 ≤ N
theorem TxS.next {w W W' : World} {X X2 : Nat} {g : Int} {v v2 : Value} {BX N : Nat} {f : Nat → Int} (h : TxS w W X X2 g v v2 BX N f) (hb : Below W.heap.size W W') : TxS w W' X X2 g v v2 BX N f := ⟨h.st.next hb, h.b2.kept hb, h.x.kept hb (h.x.lt h.N1), h.N1⟩

set_option maxHeartbeats 8000000 in
set_option maxRecDepth 100000 in
theorem ttexts_any (c : CQ) (g : Int) (ao : Option Addr) (n cap : Nat) (A : Nat → Option Addr) (C : Nat → Nat) (ai : Option Addr) (ni ci : Nat) (fi : Nat → Int) (M0 : Int) (w : World) (ht : Tab w) (hn63 : n ≤ maxLen) (hg : c.log = g) (hn : c.layers.length = n) (hr : CRow w ao c.layers A C) (hi : PRow w ai ni fi) (vi : Nums fi) (hM : w.cell? ⟨0, 0, none⟩ = some (.int .i64 M0)) :
    Calls Tryz.prog 3 #[.agg #[.int .i64 g, .slice ao n cap], .slice ai ni ci] w fun e w' => e = .returned (.bool true) ∧ Below w.heap.size w w' := by
  have HS0 := hid (StW.start w g (.slice ao n cap) 24)
  have HHE := hid (fun W (h : Below w.heap.size w W) => said_any W (ht.kept h ht.1))
  have HSM := hid (fun W (h : Below w.heap.size w W) => small_top c g ao n cap A C W hn63 hg hn (hr.kept h))
  have HPA := hid (fun (s : ByteArray) W (h : Below w.heap.size w W) => parse_any s M0 W ((h.cell (p := ⟨0, 0, none⟩) (World.block_lt_of_cell? w _ hM)).trans hM))
  have HR := hid hr
  have HG := hid hg
  have HN := hid hn
  have HT := hid (fun W (h : Below w.heap.size w W) => ht.kept h ht.1)
  have HI := hid (And.intro hi vi)
  obtain ⟨x, hx⟩ : ∃ x, checkE c x := checkE_some c
  have HX := hid hx
  clear hr hg hn ht hi vi hn63 hM hx
  go_enter Tryz.func3, Tryz.ntmps3
  go_wp2_with fail
  obtain ⟨X, hX⟩ : ∃ X, w.heap.size = X := ⟨_, rfl⟩
  rw [hX] at HS0
  rw [hX]
  clear hX
  generalize w.alloc (.cells #[.int .i64 g, .slice ao n cap] 24) = W0 at HS0 ⊢
  refine (HHE.out _ HS0.out.bel).mono ?_
  rintro e w1 ⟨rfl, hb⟩
  have HS1 := hid (HS0.out.next hb)
  clear hb HS0 HHE
  obtain ⟨z0, z1, zl⟩ := HS1.out.box
  go_wp2_with fail
  by_cases h0 : x = 0
  · subst h0
    have HC := hid (checkE_zero.1 HX.out)
    obtain ⟨b, off, rfl⟩ := right_addr HC.out HR.out
    refine (print_ok c g b off n cap A C w1 HG.out HN.out HC.out (HR.out.kept HS1.out.bel)).mono ?_
    rintro e w2 ⟨t2, rfl, ht2, hsz, hb⟩
    have HS2 := hid (HS1.out.next hb)
    have HT2 := hid ht2
    clear hb z0 z1 zl HS1 ht2 HX
    go_wp2_with fail
    refine (HPA.out t2 _ HS2.out.bel).mono ?_
    rintro e w3 ⟨hb, c2, at', y, v, ps, hpe, hup, hat, rfl, hoc, hlay⟩
    have hl4 : (printQ c).length ≤ 4096 := by rw [← HT2.out, list_size]; exact hsz
    rw [HT2.out] at hpe
    obtain ⟨rfl, rfl, rfl⟩ := parseE_one hpe (texts_print HC.out hl4)
    have HS3 := hid (HS2.out.next hb)
    clear hb HS2 hpe hl4 hup hat HPA
    obtain ⟨hve, _, _, hrow⟩ := hoc.row
    obtain ⟨va, hva⟩ : ∃ x, adrV v = x := ⟨_, rfl⟩
    obtain ⟨vc, hvc⟩ : ∃ x, capV v = x := ⟨_, rfl⟩
    have hpk : ps.length = n := by rw [← HN.out, hlay, List.length_map]
    rw [hva, hvc, hpk] at hve
    rw [hva, ← hlay] at hrow
    have hlog := HG.out
    subst hve
    obtain ⟨A2, hA2⟩ : ∃ A2 : Nat → Option Addr, A2 = (fun i => adrV ((ps[i]?.map (·.2)).getD (.slice none 0 0))) := ⟨_, rfl⟩
    obtain ⟨C2, hC2⟩ : ∃ C2 : Nat → Nat, C2 = (fun i => capV ((ps[i]?.map (·.2)).getD (.slice none 0 0))) := ⟨_, rfl⟩
    rw [← hA2, ← hC2] at hrow
    have HROW := hid hrow
    clear hoc hlay hva hvc hpk hrow hsz hA2 hC2
    rw [hlog]
    have hal := (Below.refl w3.heap.size w3).alloc (Nat.le_refl _) (.cells #[.int .i64 g, .slice va n vc] 24)
    have HS4 := hid (HS3.out.next hal)
    have HROW4 := hid (HROW.out.kept hal)
    have HB4 : Hid (Box2 (w3.alloc (.cells #[.int .i64 g, .slice va n vc] 24)) w3.heap.size (.int .i64 g) (.slice va n vc)) := hid (Box2.new w3 _ _ _)
    obtain ⟨z0, z1, zl⟩ := HS4.out.box
    clear hal hlog HS3 HROW
    go_wp2_with fail
    obtain ⟨X2, hX2⟩ : ∃ x, w3.heap.size = x := ⟨_, rfl⟩
    rw [hX2] at HB4
    rw [hX2]
    clear hX2
    generalize w3.alloc (.cells #[.int .i64 g, .slice va n vc] 24) = W4 at HS4 HROW4 HB4 z0 z1 zl ⊢
    refine (HSM.out _ HS4.out.bel).mono ?_
    rintro e w5 ⟨r, rfl, hrt, hb⟩
    have HS5 := hid (HS4.out.next hb)
    have HROW5 := hid (HROW4.out.kept hb)
    have HB5 := hid (HB4.out.kept hb)
    clear hb HS4 HROW4 HB4 z0 z1 zl HSM hrt
    cases r with
    | false =>
      go_wp2_with fail
      go_ret
      exact ⟨rfl, HS5.out.bel⟩
    | true =>
      obtain ⟨b2, off2, rfl⟩ := right_addr HC.out HROW5.out
      obtain ⟨gn, N, rfl, gn4, sh, hN, N1, N16, hNk⟩ := right_nums HG.out HN.out HC.out
      have HNN := hid (And.intro hN hNk)
      have n4 : n ≤ 4 := by have := HC.out.few; have := HN.out; omega
      have HSH := hid sh
      obtain ⟨M, hM⟩ : ∃ x, lenQ c2 n = x := ⟨_, rfl⟩
      have M1 : 1 ≤ M := by rw [← hM]; exact (lenQ_rng HC.out n (by rw [HN.out]; omega)).1
      have M16 : M ≤ 16 := by rw [← hM]; exact (lenQ_rng HC.out n (by rw [HN.out]; omega)).2
      have HM := hid hM
      clear hN hNk hM
      obtain ⟨z0, z1, zl⟩ := HS5.out.box
      have gn0 : (0 : Int) ≤ (gn : Int) := by omega
      go_wp2_with fail
      rw [HSH.out]
      refine (sized_any ai ni ci N fi w5 (by omega) (HI.out.1.kept HS5.out.bel)).mono ?_
      rintro e w6 ⟨rfl, hm⟩
      obtain ⟨BX, hBX⟩ : ∃ x, w5.heap.size = x := ⟨_, rfl⟩
      have hrow6 := hm.row
      rw [hBX] at hrow6
      have HP6 : Hid (TxS w w6 X X2 (gn : Int) (.slice (some ⟨b, off, none⟩) n cap) (.slice (some ⟨b2, off2, none⟩) n vc) BX N (padF ni fi)) := hid ⟨HS5.out.next hm.below, HB5.out.kept hm.below, hrow6, N1⟩
      have HROW6 := hid (HROW5.out.kept hm.below)
      rw [hBX]
      clear hm hBX HS5 HB5 HROW5 z0 z1 zl hrow6
      obtain ⟨z0, z1, zl⟩ := HP6.out.st.box
      go_wp2_with fail
      refine (fpv_ok c2 gn b off n cap A C BX 0 N N M (padF ni fi) w6 HG.out HN.out (HR.out.kept HP6.out.st.bel) HC.out HSH.out HNN.out.1 HM.out HP6.out.x (Nums_pad HI.out.2 _) (HT.out _ HP6.out.st.bel)).mono ?_
      rintro e w7 ⟨ok, PB, m1, rfl, hrow, hpf, hlow, hfr, hb⟩
      have hal := (Below.refl w7.heap.size w7).alloc (Nat.le_refl _) (.cells #[.slice (some ⟨PB, 0, none⟩) n n] 36)
      have HP8 := hid ((HP6.out.next hb).next hal)
      have HROW8 := hid ((HROW6.out.kept hb).kept hal)
      have HF8 := hid (hpf.kept hal)
      have HO8 : Hid (Row (w7.alloc (.cells #[.slice (some ⟨PB, 0, none⟩) n n] 36)) ok 0 M (valsQ c2 (padF ni fi) n)) := hid (hrow.kept hal (hrow.lt M1))
      have HQ8 : Hid ((w7.alloc (.cells #[.slice (some ⟨PB, 0, none⟩) n n] 36)).cell? ⟨w7.heap.size, 0, none⟩ = some (.slice (some ⟨PB, 0, none⟩) n n)) := hid (by rw [World.cell?_alloc_new]; rfl)
      clear hrow hpf hlow hfr hb hal HP6 HROW6 z0 z1 zl
      obtain ⟨y0, y1, yl⟩ := HP8.out.b2
      go_wp2_with fail
      obtain ⟨BQ, hBQ⟩ : ∃ x, w7.heap.size = x := ⟨_, rfl⟩
      rw [hBQ] at HQ8
      rw [hBQ]
      clear hBQ y0 y1 yl
      generalize w7.alloc (.cells #[.slice (some ⟨PB, 0, none⟩) n n] 36) = W8 at HP8 HF8 HO8 HQ8 HROW8 ⊢
      refine (fpv_ok c2 gn b2 off2 n vc A2 C2 BX 0 N N M (padF ni fi) W8 HG.out HN.out HROW8.out HC.out HSH.out HNN.out.1 HM.out HP8.out.x (Nums_pad HI.out.2 _) (HT.out _ HP8.out.st.bel)).mono ?_
      rintro e w9 ⟨ok2, PC, m2, rfl, hrow, hpf, hlow, hfr, hb⟩
      have hal := (Below.refl w9.heap.size w9).alloc (Nat.le_refl _) (.cells #[.slice (some ⟨PC, 0, none⟩) n n] 36)
      have HPA := hid ((HP8.out.next hb).next hal)
      have HROWA := hid ((HROW8.out.kept hb).kept hal)
      have HFA := hid ((HF8.out.kept hb).kept hal)
      have HGA := hid (hpf.kept hal)
      have HOA := hid ((HO8.out.kept hb (HO8.out.lt M1)).kept hal (Nat.lt_of_lt_of_le (HO8.out.lt M1) hb.size))
      have HO2A : Hid (Row (w9.alloc (.cells #[.slice (some ⟨PC, 0, none⟩) n n] 36)) ok2 0 M (valsQ c2 (padF ni fi) n)) := hid (hrow.kept hal (hrow.lt M1))
      have HQA : Hid ((w9.alloc (.cells #[.slice (some ⟨PC, 0, none⟩) n n] 36)).cell? ⟨BQ, 0, none⟩ = some (.slice (some ⟨PB, 0, none⟩) n n)) := hid (keep_cell (keep_cell HQ8.out hb) hal)
      have HRA : Hid ((w9.alloc (.cells #[.slice (some ⟨PC, 0, none⟩) n n] 36)).cell? ⟨w9.heap.size, 0, none⟩ = some (.slice (some ⟨PC, 0, none⟩) n n)) := hid (by rw [World.cell?_alloc_new]; rfl)
      clear hrow hpf hlow hfr hb hal HP8 HROW8 HF8 HO8 HQ8
      obtain ⟨y0, y1, yl⟩ := HPA.out.b2
      have q0 := HQA.out
      go_wp2_with fail
      obtain ⟨BR, hBR⟩ : ∃ x, w9.heap.size = x := ⟨_, rfl⟩
      rw [hBR] at HRA
      rw [hBR]
      clear hBR y0 y1 yl q0
      generalize w9.alloc (.cells #[.slice (some ⟨PC, 0, none⟩) n n] 36) = WA at HPA HROWA HFA HGA HOA HO2A HQA HRA ⊢
      refine (fvf_yes c2 (gn : Int) b2 off2 n vc A2 C2 BX 0 N N ok 0 M M (padF ni fi) (some ⟨PB, 0, none⟩) n m1 WA HG.out HN.out HROWA.out HC.out HNN.out.2 HM.out HPA.out.x (Nums_pad HI.out.2 _) HOA.out HFA.out (HT.out _ HPA.out.st.bel)).mono ?_
      rintro e wb ⟨rfl, hb⟩
      have HPB := hid (HPA.out.next hb)
      have HFB := hid (HFA.out.kept hb)
      have HGB := hid (HGA.out.kept hb)
      have HEQ := hid (equal_ok (some ⟨ok, 0, none⟩) (some ⟨ok2, 0, none⟩) M M M _ _ wb (by omega) (PRow.of (HOA.out.kept hb (HOA.out.lt M1))) (PRow.of (HO2A.out.kept hb (HO2A.out.lt M1))) fun _ _ => rfl)
      have q0 := keep_cell HQA.out hb
      have q1 := keep_cell HRA.out hb
      have HQR := hid (And.intro q0 q1)
      clear hb HPA HROWA HFA HGA HOA HO2A HQA HRA q0 q1
      go_wp2_with (go_at_call 11; refine (HEQ.out).mono ?_; rintro e wd ⟨rfl, hbe⟩; have q0 := keep_cell HQR.out.1 hbe; have q1 := keep_cell HQR.out.2 hbe; have HBE := hid hbe; clear hbe)
      refine (sameproof_ok (some ⟨PB, 0, none⟩) (some ⟨PC, 0, none⟩) n n n (fiatP c2 N M (padF ni fi)) m1 m2 wd HN.out (by omega) (shape_small HC.out HN.out _ (fiatP_shaped _ _ _ _)) (HFB.out.kept HBE.out) (HGB.out.kept HBE.out)).mono ?_
      rintro e we ⟨rfl, hb⟩
      go_wp2_with fail
      go_ret
      exact ⟨rfl, bel_trans hb (bel_trans HBE.out HPB.out.st.bel)⟩
  · refine (print_bad c g ao n cap A C x w1 HG.out HN.out (HR.out.kept HS1.out.bel) HX.out h0).mono ?_
    rintro e w2 ⟨rfl, hb⟩
    have HS2 := hid (HS1.out.next hb)
    have hx1 : (x != 0) = true := bne_iff_ne.2 h0
    clear hb z0 z1 zl HS1 HX
    go_wp2_with fail
    refine (HPA.out ⟨#[]⟩ _ HS2.out.bel).mono ?_
    rintro e w3 ⟨hb, c2, at', y, v, ps, hpe, hup, hat, rfl, hoc, hlay⟩
    have hy : y = 3 := texts_none hpe
    subst hy
    have HS3 := hid (HS2.out.next hb)
    obtain ⟨hve, _, _, _⟩ := hoc.row
    obtain ⟨va, hva⟩ : ∃ x, adrV v = x := ⟨_, rfl⟩
    obtain ⟨vc, hvc⟩ : ∃ x, capV v = x := ⟨_, rfl⟩
    obtain ⟨vl, hvl⟩ : ∃ x, ps.length = x := ⟨_, rfl⟩
    rw [hva, hvc, hvl] at hve
    subst hve
    clear hb HS2 hpe hup hat HPA hoc hlay hva hvc hvl
    obtain ⟨lg, hlg⟩ : ∃ x, c2.log = x := ⟨_, rfl⟩
    rw [hlg]
    have HBE := hid (HS3.out.next ((Below.refl w3.heap.size w3).alloc (Nat.le_refl _) (.cells #[.int .i64 lg, .slice va vl vc] 24)))
    clear hlg
    go_wp2_with fail
    go_ret
    exact ⟨rfl, HBE.out.bel⟩

end Go.Proofs.YtnnnlalhhhhaeaaGreatDoor
