/-
  Several texts in one: CircOpen, RefA, RefN, RefSpong, RefSpong2, RefSpong3, RefTree, RefTree2, RefPfM, MleRef, RefVars, RefMle, RefMle2, RefPf0, RefIn, RefC, RefC2, RefVal, RefGk1, RefSh, RefWir, RefWir2, RefPf1, Equal, RefSp, Gkp1; each opens with what it holds.
-/
import Derived.Test.YtpkdkgpfjpalnaaDoorChecked
import Derived.Test.YtpkdkgpfjpalnaaDoorCirc
import Derived.OpenShut
import Derived.Deep.Strs
import Derived.Deep.SlicePairs
import Derived.Test.YtpkdkgpfjpalnaaDoorOps
import Derived.WalkKit
import Derived.Test.YtpkdkgpfjpalnaaDoorMFiat
import Derived.Test.YtpkdkgpfjpalnaaDoorOwn
import Derived.Deep.LoopGhost
import Derived.Deep.Light
import Derived.Deep.OwnRows
import Derived.Deep.DrawnRows
import Derived.StillTailTactics
import Derived.Test.YtpkdkgpfjpalnaaDoorMOpA
import Derived.Deep.RegionWith
import Derived.Deep.RegionHeld3
import Derived.Deep.AppendLies
import Derived.Test.YtpkdkgpfjpalnaaDoorPrf
import Derived.Test.YtpkdkgpfjpalnaaDoorCircM
import Derived.Test.YtpkdkgpfjpalnaaDoorMulti
import Derived.Test.YtpkdkgpfjpalnaaDoorMem
import Derived.Test.YtpkdkgpfjpalnaaDoorMGkA
import Derived.Deep.QuietTactic
import Derived.Test.YtpkdkgpfjpalnaaDoorCircL
import Derived.Deep.Onto
import Derived.Test.YtpkdkgpfjpalnaaDoorGkrQ
import Derived.Test.YtpkdkgpfjpalnaaDoorWirC
import Derived.Test.YtpkdkgpfjpalnaaDoorWirQ
import Derived.Test.YtpkdkgpfjpalnaaDoorMOpB
import Derived.Deep.RegionLaw
import Derived.Test.YtpkdkgpfjpalnaaDoorMGkB
import Derived.Test.YtpkdkgpfjpalnaaDoorLawS
/-
  What a circuit that came in gives the walk.
-/
namespace Go.Proofs.YtpkdkgpfjpalnaaDoor
open Go.ChangeShapes Go.WideShapes Go.RowKit Go.Deep
set_option linter.unusedVariables false

/-- Numbers of Go's int. -/
def I64 (a : Int) : Prop := -9223372036854775808 ≤ a ∧ a ≤ 9223372036854775807
theorem i64_of_wf {a : Int} (h : (Lit.int .i64 a).wf = true) : I64 a := by
  simp [Lit.wf, IntKind.min, IntKind.max, IntKind.signed, IntKind.bits] at h
  unfold I64
  omega
/-- A circuit that came in. -/
structure IsCirc (w : World) (g : Int) (a : Option Addr) (len cap : Nat) (c : CQ) (A : Nat → Option Addr) (C : Nat → Nat) : Prop where
  log : c.log = g
  logR : I64 g
  lenE : c.layers.length = len
  capE : len ≤ cap
  maxE : cap ≤ maxLen
  row : CRow w a c.layers A C
  rng : ∀ l ∈ c.layers, I64 l.log ∧ l.gates.length ≤ maxLen ∧ ∀ q ∈ l.gates, I64 q.a ∧ I64 q.b
theorem add_three (a : Addr) (i j : Nat) : (a.add (i * 3)).add j = a.add (3 * i + j) := by rw [add_add, Nat.mul_comm]
theorem add_two (a : Addr) (i j : Nat) : (a.add (i * 2)).add j = a.add (2 * i + j) := by rw [add_add, Nat.mul_comm]
theorem gate_cells : Tryd.prog.cellsOf 67 = 3 := by kernel_rfl
theorem layer_cells : Tryd.prog.cellsOf 50 = 2 := by kernel_rfl
theorem circ_cells : Tryd.prog.cellsOf 24 = 2 := by kernel_rfl
theorem int_cells : Tryd.prog.cellsOf 3 = 1 := by kernel_rfl
theorem bool_cells : Tryd.prog.cellsOf 4 = 1 := by kernel_rfl
theorem gates_cells : Tryd.prog.cellsOf 48 = 1 := by kernel_rfl
theorem layers_cells : Tryd.prog.cellsOf 22 = 1 := by kernel_rfl
theorem cell_spot {w : World} {a : Addr} {u : Value} (h : w.cell? (a.add 0) = some u) : ∃ b off, a = ⟨b, off, none⟩ := by
  obtain ⟨b, off, spot⟩ := a
  have hspot : spot = none := by simpa [Addr.add] using World.cell?_spot h
  subst hspot
  exact ⟨b, off, rfl⟩

section
variable {H : Type} {enc : TypeId × Value → H} {W : World} {base : Nat} {held : Bool}
set_option maxRecDepth 100000 in
theorem gates_of {fuel : Nat} {a : Option Addr} {len cap : Nat} {x : DataW H × List MemPlace}
    (h : DataW.trod enc Tryd.prog W base (fun _ => true) held fuel 48 [Value.slice a len cap] = some x) :
    ∃ gs : List GQ, gs.length = len ∧ len ≤ cap ∧ len ≤ maxLen ∧ GRow W a gs ∧ ∀ g ∈ gs, I64 g.a ∧ I64 g.b := by
  rcases open_slice Tryd.underlying48 h with ⟨hcs, _⟩ | ⟨a', len', cap', m, n, D, Pl, hcs, _, hl, hm, hmm, _, hx⟩
  · simp at hcs
    obtain ⟨rfl, rfl, rfl⟩ := hcs
    exact ⟨[], rfl, Nat.le_refl _, Nat.zero_le _, fun h => absurd rfl h, by simp⟩
  · simp at hcs
    obtain ⟨rfl, rfl, rfl⟩ := hcs
    simp only [if_true] at hmm
    have each : ∀ i, i < len → ∃ g : GQ, W.cell? (a'.add (3 * i)) = some (.bool g.mul) ∧ W.cell? (a'.add (3 * i + 1)) = some (.int .i64 g.a) ∧ W.cell? (a'.add (3 * i + 2)) = some (.int .i64 g.b) ∧ I64 g.a ∧ I64 g.b := by
      intro i hi
      obtain ⟨cs', h1, h2⟩ := hx i (by omega)
      rw [gate_cells] at h1
      obtain ⟨_, hlen, hcell⟩ := World.cells?_some h1
      obtain ⟨y0, y1, y2, k, _, _, g0, g1, g2⟩ := trod_struct3 Tryd.underlying67 h2
      match cs', hlen with
      | [v0, v1, v2], _ =>
        simp [int_cells, bool_cells] at g0 g1 g2
        obtain ⟨b, e0, _⟩ := DataW.trod_bool Tryd.underlying4 g0
        obtain ⟨p, e1, _, r1⟩ := DataW.trod_int Tryd.underlying3 g1
        obtain ⟨q, e2, _, r2⟩ := DataW.trod_int Tryd.underlying3 g2
        simp at e0 e1 e2
        subst e0
        subst e1
        subst e2
        have c0 := hcell 0 (by omega)
        have c1 := hcell 1 (by omega)
        have c2 := hcell 2 (by omega)
        rw [add_three] at c0 c1 c2
        exact ⟨⟨b, p, q⟩, by simpa using c0, by simpa using c1, by simpa using c2, i64_of_wf r1, i64_of_wf r2⟩
    haveI : Inhabited GQ := ⟨⟨false, 0, 0⟩⟩
    obtain ⟨f, hf⟩ := choose_lt each
    have hg : ∀ j g, ((List.range len).map f)[j]? = some g → j < len ∧ g = f j := by
      intro j g e
      by_cases hj : j < len
      · simp [hj] at e; exact ⟨hj, e.symm⟩
      · simp [hj] at e
    refine ⟨(List.range len).map f, by simp, hl, Nat.le_trans hl hm, fun hne => ?_, fun g hg2 => ?_⟩
    · have h0 : 0 < len := by
        rcases Nat.eq_zero_or_pos len with e | e
        · rw [e] at hne; simp at hne
        · exact e
      obtain ⟨b, off, rfl⟩ := cell_spot (by simpa using (hf 0 h0).1)
      refine ⟨b, off, rfl, fun j g e => ?_⟩
      obtain ⟨hj, rfl⟩ := hg j g e
      obtain ⟨c0, c1, c2, _⟩ := hf j hj
      rw [Addr.add_lit] at c0 c1 c2
      exact ⟨c0, c1, c2⟩
    · obtain ⟨j, hj, rfl⟩ := List.mem_map.1 hg2
      exact (hf j (List.mem_range.1 hj)).2.2.2
set_option maxRecDepth 100000 in
theorem layers_of {fuel : Nat} {a : Option Addr} {len cap : Nat} {x : DataW H × List MemPlace}
    (h : DataW.trod enc Tryd.prog W base (fun _ => true) held fuel 22 [Value.slice a len cap] = some x) :
    ∃ (ls : List LQ) (A : Nat → Option Addr) (C : Nat → Nat), ls.length = len ∧ len ≤ cap ∧ cap ≤ maxLen ∧ CRow W a ls A C ∧ ∀ l ∈ ls, I64 l.log ∧ l.gates.length ≤ maxLen ∧ ∀ q ∈ l.gates, I64 q.a ∧ I64 q.b := by
  rcases open_slice Tryd.underlying22 h with ⟨hcs, _⟩ | ⟨a', len', cap', m, n, D, Pl, hcs, _, hl, hm, hmm, _, hx⟩
  · simp at hcs
    obtain ⟨rfl, rfl, rfl⟩ := hcs
    exact ⟨[], fun _ => none, fun _ => 0, rfl, Nat.le_refl _, Nat.zero_le _, fun h => absurd rfl h, by simp⟩
  · simp at hcs
    obtain ⟨rfl, rfl, rfl⟩ := hcs
    simp only [if_true] at hmm
    have each : ∀ i, i < len → ∃ y : LQ × Option Addr × Nat, W.cell? (a'.add (2 * i)) = some (.int .i64 y.1.log) ∧ W.cell? (a'.add (2 * i + 1)) = some (.slice y.2.1 y.1.gates.length y.2.2) ∧ GRow W y.2.1 y.1.gates ∧ y.1.gates.length ≤ y.2.2 ∧
        I64 y.1.log ∧ y.1.gates.length ≤ maxLen ∧ ∀ q ∈ y.1.gates, I64 q.a ∧ I64 q.b := by
      intro i hi
      obtain ⟨cs', h1, h2⟩ := hx i (by omega)
      rw [layer_cells] at h1
      obtain ⟨_, hlen, hcell⟩ := World.cells?_some h1
      obtain ⟨y0, y1, k, _, _, g0, g1⟩ := trod_struct2 Tryd.underlying50 h2
      match cs', hlen with
      | [v0, v1], _ =>
        simp [int_cells, gates_cells] at g0 g1
        obtain ⟨p, e0, _, r0⟩ := DataW.trod_int Tryd.underlying3 g0
        simp at e0
        subst e0
        obtain ⟨ga, gl, gc, rfl⟩ : ∃ ga gl gc, v1 = .slice ga gl gc := by
          rcases open_slice Tryd.underlying48 g1 with ⟨e, _⟩ | ⟨_, _, _, _, _, _, _, e, _⟩
          · simp at e; exact ⟨_, _, _, e⟩
          · simp at e; exact ⟨_, _, _, e⟩
        obtain ⟨gs, e1, e2, e3, e4, e5⟩ := gates_of g1
        have c0 := hcell 0 (by omega)
        have c1 := hcell 1 (by omega)
        rw [add_two] at c0 c1
        exact ⟨(⟨p, gs⟩, ga, gc), by simpa using c0, by simpa [e1] using c1, e4, by rw [e1]; exact e2, i64_of_wf r0, by rw [e1]; exact e3, e5⟩
    haveI : Inhabited (LQ × Option Addr × Nat) := ⟨(⟨0, []⟩, none, 0)⟩
    obtain ⟨f, hf⟩ := choose_lt each
    have hg : ∀ j g, ((List.range len).map fun i => (f i).1)[j]? = some g → j < len ∧ g = (f j).1 := by
      intro j g e
      by_cases hj : j < len
      · simp [hj] at e; exact ⟨hj, e.symm⟩
      · simp [hj] at e
    refine ⟨(List.range len).map fun i => (f i).1, fun i => (f i).2.1, fun i => (f i).2.2, by simp, hl, hm, fun hne => ?_, fun g hg2 => ?_⟩
    · have h0 : 0 < len := by
        rcases Nat.eq_zero_or_pos len with e | e
        · rw [e] at hne; simp at hne
        · exact e
      obtain ⟨b, off, rfl⟩ := cell_spot (by simpa using (hf 0 h0).1)
      refine ⟨b, off, rfl, fun j g e => ?_⟩
      obtain ⟨hj, rfl⟩ := hg j g e
      obtain ⟨c0, c1, c2, c3, _⟩ := hf j hj
      rw [Addr.add_lit] at c0 c1
      exact ⟨c0, c1, c2, c3⟩
    · obtain ⟨j, hj, rfl⟩ := List.mem_map.1 hg2
      exact (hf j (List.mem_range.1 hj)).2.2.2.2
set_option maxRecDepth 100000 in
theorem circ_val {v : Value} {d : DataW H} {p : List MemPlace} (hv : Value.okWide Tryd.prog W .any base 24 v) (h : DataW.Trod enc Tryd.prog W 0 (fun _ => true) true 24 v d p) :
    ∃ g a len cap, v = .agg #[.int .i64 g, .slice a len cap] := by
  obtain ⟨cs, rfl, hs⟩ := okWide_struct Tryd.underlying24 hv
  obtain ⟨fuel, hf⟩ := h
  obtain ⟨y0, y1, k, _, _, g0, g1⟩ := trod_struct2 Tryd.underlying24 hf
  rw [circ_cells] at hs
  obtain ⟨l⟩ := cs
  match l, hs with
  | [v0, v1], _ =>
    simp [Value.cells, int_cells, layers_cells] at g0 g1
    obtain ⟨p, e0, _, _⟩ := DataW.trod_int Tryd.underlying3 g0
    simp at e0
    subst e0
    rcases open_slice Tryd.underlying22 g1 with ⟨e, _⟩ | ⟨_, _, _, _, _, _, _, e, _⟩
    · simp at e; exact ⟨_, _, _, _, by rw [e]⟩
    · simp at e; exact ⟨_, _, _, _, by rw [e]⟩
set_option maxRecDepth 100000 in
theorem circ_of {g : Int} {a : Option Addr} {len cap : Nat} {d : DataW H} {p : List MemPlace} (h : DataW.Trod enc Tryd.prog W 0 (fun _ => true) true 24 (.agg #[.int .i64 g, .slice a len cap]) d p) :
    ∃ c A C, IsCirc W g a len cap c A C := by
  obtain ⟨fuel, hf⟩ := h
  obtain ⟨y0, y1, k, _, _, g0, g1⟩ := trod_struct2 Tryd.underlying24 hf
  simp [Value.cells, int_cells, layers_cells] at g0 g1
  obtain ⟨p, e0, _, r0⟩ := DataW.trod_int Tryd.underlying3 g0
  simp at e0
  subst e0
  obtain ⟨ls, A, C, e1, e2, e3, e4, e5⟩ := layers_of g1
  exact ⟨⟨g, ls⟩, A, C, rfl, i64_of_wf r0, e1, e2, e3, e4, e5⟩
end

end Go.Proofs.YtpkdkgpfjpalnaaDoor

/-
  Contracts of the document's own answer on numbers (package tallyref: Add, Sub, Mul), each for every input: they answer what the functions of the text Ops tell, and leave the world as it was.
-/
namespace Go.Proofs.YtpkdkgpfjpalnaaDoor
open Go.RowKit
set_option linter.unusedVariables false

set_option maxHeartbeats 400000 in
theorem radd_any (a b : Int) (w : World) (h0 : 0 ≤ a) (h1 : a ≤ 18446744073709551615) (g0 : 0 ≤ b) (g1 : b ≤ 18446744073709551615) :
    Calls Tryd.prog 34 #[.int .u64 a, .int .u64 b] w fun e w' => e = .returned (.int .u64 (addQ a b)) ∧ w' = w := by
  go_enter Tryd.func34, Tryd.ntmps34
  go_wp2
  go_ret
  exact ⟨ret_u64 (by unfold addQ; rw [Q_eq]; omega), rfl⟩

set_option maxHeartbeats 400000 in
theorem rsub_any (a b : Int) (w : World) (h0 : 0 ≤ a) (h1 : a ≤ 18446744073709551615) (g0 : 0 ≤ b) (g1 : b ≤ 18446744073709551615) :
    Calls Tryd.prog 79 #[.int .u64 a, .int .u64 b] w fun e w' => e = .returned (.int .u64 (subQ a b)) ∧ w' = w := by
  go_enter Tryd.func79, Tryd.ntmps79
  go_wp2
  go_ret
  exact ⟨ret_u64 (by unfold subQ; rw [Q_eq]; omega), rfl⟩

set_option maxHeartbeats 1000000 in
theorem rmul_any (a b : Int) (w : World) (h0 : 0 ≤ a) (h1 : a ≤ 18446744073709551615) (g0 : 0 ≤ b) (g1 : b ≤ 18446744073709551615) :
    Calls Tryd.prog 48 #[.int .u64 a, .int .u64 b] w fun e w' => e = .returned (.int .u64 (mulQ a b)) ∧ w' = w := by
  go_enter Tryd.func48, Tryd.ntmps48
  go_wp2_with fail
  go_loop [5, 6] (fun o i => ∃ (t : Int) (k : Nat), o = .int .u64 t ∧ i = .int .i64 ((k : Int) - 1) ∧ k ≤ 61 ∧ 0 ≤ t ∧ t ≤ 2305843009213693950 ∧ Hid (t = mulQ a (b % 2305843009213693951 / 2 ^ k))) (fun _ i => (intOf i + 1).toNat)
  case atStart => exact ⟨0, 61, rfl, rfl, by omega, by omega, by omega, hid (by rw [show b % 2305843009213693951 / 2 ^ 61 = 0 from by omega, mulQ_zero])⟩
  case round =>
    obtain ⟨t, k, rfl, rfl, hk, t0, t1, HT⟩ := hrel
    by_cases hz : k = 0
    · subst hz
      go_wp2_with fail
      go_ret
      exact ⟨ret_u64 (by rw [HT.out, Int.pow_zero, Int.ediv_one]; exact mulQ_nrm_r a b), rfl⟩
    · obtain ⟨j, rfl⟩ : ∃ j, k = j + 1 := ⟨k - 1, by omega⟩
      obtain ⟨q0, q1⟩ := shr_rng (b % 2305843009213693951) j (by omega)
      by_cases hb : b % 2305843009213693951 / 2 ^ j % 2 = 1
      · have hb' : (b % 2305843009213693951 / 2 ^ j % 2 == 1) = true := beq_iff_eq.2 hb
        have HB := hid hb
        clear hb
        go_wp2_with fail
        go_round
        case rel => exact ⟨_, j, rfl, rfl, by omega, by omega, by omega, hid (by rw [HT.out]; exact mul_bit1 a _ j HB.out)⟩
        case measure => simp [intOf]
      · have hb' : (b % 2305843009213693951 / 2 ^ j % 2 == 1) = false := beq_eq_false_iff_ne.2 hb
        have HB := hid hb
        clear hb
        go_wp2_with fail
        go_round
        case rel => exact ⟨_, j, rfl, rfl, by omega, by omega, by omega, hid (by rw [HT.out]; exact mul_bit0 a _ j (by have := HB.out; omega))⟩
        case measure => simp [intOf]

end Go.Proofs.YtpkdkgpfjpalnaaDoor

/-
  Contracts of the document's own answer on numbers (package tallyref: Norm), each for every input: they answer what the functions of the text Ops tell, and leave the world as it was.
-/
namespace Go.Proofs.YtpkdkgpfjpalnaaDoor
open Go.RowKit
set_option linter.unusedVariables false

set_option maxHeartbeats 400000 in
theorem rnorm_any (a : Int) (w : World) (h0 : 0 ≤ a) (h1 : a ≤ 18446744073709551615) :
    Calls Tryd.prog 47 #[.int .u64 a] w fun e w' => e = .returned (.int .u64 (nrm a)) ∧ w' = w := by
  go_enter Tryd.func47, Tryd.ntmps47
  go_wp2
  go_ret
  exact ⟨rfl, rfl⟩

end Go.Proofs.YtpkdkgpfjpalnaaDoor

/-
  Contracts of tallyref's Sponge: mix, for every three numbers; it turns the sponge's own block, makes new ones, and writes nothing else that was there.
-/
namespace Go.Proofs.YtpkdkgpfjpalnaaDoor
open Go.RowKit
set_option linter.unusedVariables false
attribute [local go_sem ↓] Go.wp_at_zero Go.wp_at_succ

theorem Tryd.mixedS : Tryd.prog.follows .mixedOrders = true := by kernel_rfl
theorem Turned.new {b : Nat} {w w' : World} (h : Turned b w w') {c : Nat} (hc : w.heap.size ≤ c) (p : Nat) (u : Value) : Turned b w (w'.setCell ⟨c, p, none⟩ u) :=
  ⟨h.os, h.tape, h.output, by rw [World.size_setCell]; exact h.size, fun k hk hb => by rw [Below.heap_setCell _ _ _ _ (by show k ≠ c; omega)]; exact h.block k hk hb⟩
theorem Turned.alloc {b : Nat} {w w' : World} (h : Turned b w w') (x : Obj) : Turned b w (w'.alloc x) := h.trans (Turned.of_below ((Below.refl _ w').alloc (Nat.le_refl _) x))
theorem add_num (g : Nat → K) (k i : Nat) : addQ (numsK g k) ((i * (k + 1) : Nat) : Int) = ofK (g k + kn (i * (k + 1))) := by unfold numsK; rw [addQ_ofK, kk_ofK]; rfl
theorem sq_step (a : K) (i : Nat) (y : Int) (hy : y = ofK (sqK a i)) : mulQ y y = ofK (sqK a (i + 1)) := by rw [mulQ_ofK, hy, kk_ofK]; rfl
theorem p17_step (a : K) (x y : Int) (hx : x = ofK a) (hy : y = ofK (sqK a 4)) : mulQ y x = ofK (p17 a) := by rw [mulQ_ofK, hx, hy, kk_ofK, kk_ofK]; rfl
/-- What holds in a turn: the sponge's numbers, and the array beside it. -/
structure Mx (w W : World) (b : Nat) (f : Nat → Int) (tb : Nat) (h : Nat → Int) : Prop where
  t : Turned b w W
  r : Row W b 0 3 f
  f : Free W b 0 3
  tr : Row W tb 0 3 h
  tf : Free W tb 0 3
theorem Mx.putT {w W : World} {b tb : Nat} {f h : Nat → Int} (m : Mx w W b f tb h) (hn : w.heap.size ≤ tb) (hne : b ≠ tb) (k : Nat) (hk : k < 3) (x : Int) : Mx w (W.setCell ⟨tb, k, none⟩ (.int .u64 x)) b f tb (fun j => if j = k then x else h j) := by
  have hs := m.tr.store k x hk
  rw [Nat.zero_add] at hs
  have hW : Wrote tb k 1 W (W.setCell ⟨tb, k, none⟩ (.int .u64 x)) := (Wrote.refl _ _ _ _).store (Nat.le_refl _) (by omega) _
  exact ⟨m.t.new hn _ _, m.r.other hW hne, fun j hj => by rw [World.frozen?_setCell]; exact m.f j hj, hs, fun j hj => by rw [World.frozen?_setCell]; exact m.tf j hj⟩
theorem Mx.putS {w W : World} {b tb : Nat} {f h : Nat → Int} (m : Mx w W b f tb h) (hne : b ≠ tb) (k : Nat) (hk : k < 3) (x : Int) : Mx w (W.setCell ⟨b, k, none⟩ (.int .u64 x)) b (fun j => if j = k then x else f j) tb h := by
  have hs := m.r.store k x hk
  rw [Nat.zero_add] at hs
  have hW : Wrote b k 1 W (W.setCell ⟨b, k, none⟩ (.int .u64 x)) := (Wrote.refl _ _ _ _).store (Nat.le_refl _) (by omega) _
  exact ⟨m.t.setCell _ _, hs, fun j hj => by rw [World.frozen?_setCell]; exact m.f j hj, m.tr.other hW (Ne.symm hne), fun j hj => by rw [World.frozen?_setCell]; exact m.tf j hj⟩
theorem Mx.congr {w W : World} {b tb : Nat} {f h f' h' : Nat → Int} (m : Mx w W b f tb h) (e1 : ∀ j, j < 3 → f j = f' j) (e2 : ∀ j, j < 3 → h j = h' j) : Mx w W b f' tb h' := ⟨m.t, m.r.congr e1, m.f, m.tr.congr e2, m.tf⟩
theorem Mx.drew {w W : World} {b tb : Nat} {f h : Nat → Int} (m : Mx w W b f tb h) : Mx w W.drew b f tb h := ⟨m.t.drew, m.r, m.f, m.tr, m.tf⟩
theorem Mx.start {w W : World} {b : Nat} {f : Nat → Int} (ht : Turned b w W) (hr : Row W b 0 3 f) (hf : Free W b 0 3) (t : TypeId) : Mx w (W.alloc (.cells #[.int .u64 0, .int .u64 0, .int .u64 0] t)) b f W.heap.size (fun _ => 0) := by
  have hb : Below W.heap.size W (W.alloc (.cells #[.int .u64 0, .int .u64 0, .int .u64 0] t)) := (Below.refl _ W).alloc (Nat.le_refl _) _
  have hlt := hr.lt (by omega)
  refine ⟨ht.alloc _, hr.kept hb hlt, hf.kept hb hlt, fun j hj => ?_, fun j _ => ?_⟩
  · rw [Nat.zero_add, World.cell?_alloc_new]
    match j, hj with
    | 0, _ => rfl
    | 1, _ => rfl
    | 2, _ => rfl
  · rw [Nat.zero_add, World.frozen?_alloc_new]
theorem turn_val (g : Nat → K) (i k : Nat) : addQ (addQ (ofK (powK i g 0)) (ofK (powK i g 1))) (addQ (ofK (powK i g 2)) (ofK (powK i g k))) = ofK (turnK i g k) := by
  rw [addQ_ofK, kk_addQ, kk_addQ, kk_ofK, kk_ofK, kk_ofK, kk_ofK]; rfl
def upTo (k : Nat) (h f : Nat → Int) (j : Nat) : Int := if j < k then h j else f j
theorem upTo_step (k : Nat) (h f : Nat → Int) (x : Int) (hx : x = h k) (j : Nat) : (if j = k then x else upTo k h f j) = upTo (k + 1) h f j := by
  unfold upTo
  by_cases e : j = k
  · subst e; rw [if_pos rfl, if_pos (by omega), hx]
  · rw [if_neg e]
    by_cases h2 : j < k
    · rw [if_pos h2, if_pos (by omega)]
    · rw [if_neg h2, if_neg (by omega)]

set_option maxHeartbeats 4000000 in
set_option maxRecDepth 100000 in
theorem rmix_any (b : Nat) (g : Nat → K) (w : World) (hr : Row w b 0 3 (numsK g)) (hf : Free w b 0 3) :
    Calls Tryd.prog 106 #[.pointer (some ⟨b, 0, none⟩)] w fun e w' => e = .returned (.tuple #[]) ∧ Turned b w w' ∧ Row w' b 0 3 (numsK (mixed g)) ∧ Free w' b 0 3 := by
  have hblt : b < w.heap.size := hr.lt (by omega)
  have HR := hid hr
  have HF := hid hf
  clear hr hf
  go_enter Tryd.func106, Tryd.ntmps106
  go_wp2_with fail
  go_loopg [2] 8 (fun q i wr => ∃ n : Nat, n ≤ 8 ∧ q = 8 - n ∧ i = .int .i64 ((n : Int) + 1) ∧ Hid (Turned b w wr) ∧ Hid (Row wr b 0 3 (numsK (mixK g n))) ∧ Hid (Free wr b 0 3))
  case atStart => exact ⟨0, by omega, rfl, rfl, hid (Turned.refl _ _), HR, HF⟩
  case round =>
    clear HR HF
    obtain ⟨n, hn, rfl, rfl, HTU, HR, HF⟩ := hrel
    by_cases hlt : n < 8
    · have n0 : (n : Int) + 1 ≤ 8 := by omega
      go_wp2_with fail
      have hmx := Mx.start HTU.out HR.out HF.out 157
      obtain ⟨tb, htb⟩ : ∃ tb, wr.heap.size = tb := ⟨_, rfl⟩
      have hnew : w.heap.size ≤ tb := by rw [← htb]; exact HTU.out.size
      have hne : b ≠ tb := by omega
      rw [htb] at hmx ⊢
      clear htb HTU HR HF
      generalize wr.alloc (.cells #[.int .u64 0, .int .u64 0, .int .u64 0] 157) = W0 at hmx ⊢
      have HM0 := hid hmx
      clear hmx
      go_loopg [4] 3 (fun q i ws => ∃ k : Nat, k ≤ 3 ∧ q = 3 - k ∧ i = .int .i64 (k : Int) ∧ Hid (Mx w ws b (numsK (mixK g n)) tb (upTo k (fun j => ofK (powK (n + 1) (mixK g n) j)) (fun _ => 0))))
      case atStart => exact ⟨0, by omega, rfl, rfl, HM0⟩
      case round =>
        clear HM0
        obtain ⟨k, hk, rfl, rfl, HM⟩ := hrel
        by_cases hlt2 : k < 3
        · have c1 := HM.out.r k hlt2
          have c2 := HM.out.tr k hlt2
          have f2 := HM.out.tf k hlt2
          rw [Nat.zero_add] at c1 c2 f2
          obtain ⟨s, hs⟩ : ∃ s, numsK (mixK g n) k = s := ⟨_, rfl⟩
          obtain ⟨z, hz⟩ : ∃ z, upTo k (fun j => ofK (powK (n + 1) (mixK g n) j)) (fun _ => 0) k = z := ⟨_, rfl⟩
          have sr := numsK_rng (mixK g n) k
          have hadd := add_num (mixK g n) k (n + 1)
          obtain ⟨M, hM⟩ : ∃ M : Nat, (n + 1) * (k + 1) = M := ⟨_, rfl⟩
          have hM24 : M ≤ 24 := by rw [← hM]; exact Nat.mul_le_mul (show n + 1 ≤ 8 by omega) (show k + 1 ≤ 3 by omega)
          have HMI : Hid (((n : Int) + 1) * ((k : Int) + 1) = (M : Int)) := hid (by rw [← hM]; simp)
          rw [hM] at hadd
          rw [hs] at c1 sr hadd
          rw [hz] at c2
          obtain ⟨s0, s1⟩ := sr
          have wM : IntKind.u64.wrap (M : Int) = (M : Int) := by rw [IntKind.wrap_u64]; omega
          have hpk : p17 (mixK g n k + kn M) = powK (n + 1) (mixK g n) k := by unfold powK; rw [hM]
          obtain ⟨a, ha⟩ : ∃ a : K, mixK g n k + kn M = a := ⟨_, rfl⟩
          rw [ha] at hadd hpk
          have xr := ofK_rng a
          obtain ⟨x, hx⟩ : ∃ x, addQ s (M : Int) = x := ⟨_, rfl⟩
          have hxa : x = ofK a := by rw [← hx]; exact hadd
          rw [← hxa] at xr
          obtain ⟨x0, x1⟩ := xr
          have HXA := hid hxa
          have HPK := hid hpk
          have hra := fun W => radd_any s (M : Int) W (by omega) (by omega) (by omega) (by omega)
          rw [hx] at hra
          have HRA := hid hra
          clear hs hz hadd hM ha hx hxa hpk hra
          have k0 : (0 : Int) ≤ (k : Int) := by omega
          have k1 : (k : Int) < 3 := by omega
          have hMi := HMI.out
          go_wp2_with (go_at_call 34; refine (HRA.out _).mono ?_; rintro e w' ⟨rfl, hw⟩; obtain rfl := hw.symm)
          clear hMi wM
          obtain ⟨wo, rfl⟩ : ∃ q, q = wr := ⟨wr, rfl⟩
          go_loopg [6, 7] 4 (fun q y i ws => ∃ (i0 : Nat) (v : Int), i0 ≤ 4 ∧ q = 4 - i0 ∧ y = .int .u64 v ∧ i = .int .i64 (i0 : Int) ∧ 0 ≤ v ∧ v ≤ 2305843009213693950 ∧ Hid (v = ofK (sqK a i0)) ∧ ws = wo)
          case atStart => exact ⟨0, x, by omega, rfl, rfl, rfl, x0, x1, HXA, rfl⟩
          case round =>
            obtain ⟨i0, v, hi0, rfl, rfl, rfl, v0, v1, HV, hw⟩ := hrel
            obtain rfl := hw.symm
            by_cases hlt3 : i0 < 4
            · have HSQ := hid (sq_step a i0 v HV.out)
              have i1 : (i0 : Int) < 4 := by omega
              go_wp2_with (go_at_call 48; refine (rmul_any _ _ _ (by omega) (by omega) (by omega) (by omega)).mono ?_; rintro e w' ⟨rfl, hw⟩; obtain rfl := hw.symm)
              go_roundg (4 - (i0 + 1))
              case measure => go_light; omega
              case rel => exact ⟨i0 + 1, _, by omega, rfl, rfl, by go_num, (mulQ_rng _ _).1, (mulQ_rng _ _).2, HSQ, rfl⟩
            · have e : i0 = 4 := by omega
              subst e
              have HP := hid ((p17_step a x v HXA.out HV.out).trans (congrArg ofK HPK.out))
              go_wp2_with (go_at_call 48; refine (rmul_any _ _ _ (by omega) (by omega) (by omega) (by omega)).mono ?_; rintro e w' ⟨rfl, hw⟩; obtain rfl := hw.symm)
              go_roundg (3 - (k + 1))
              case measure => go_light; omega
              case rel => exact ⟨k + 1, by omega, rfl, by go_num, hid ((HM.out.putT hnew hne k hlt2 _).congr (fun _ _ => rfl) fun j _ => upTo_step k _ _ _ HP.out j)⟩
        · have e : k = 3 := by omega
          subst e
          have HM3 : Hid (Mx w wr b (numsK (mixK g n)) tb (fun j => ofK (powK (n + 1) (mixK g n) j))) := hid (HM.out.congr (fun _ _ => rfl) fun j hj => by rw [upTo, if_pos hj])
          clear HM
          go_wp2_with fail
          go_loopg [8] 3 (fun q i ws => ∃ k : Nat, k ≤ 3 ∧ q = 3 - k ∧ i = .int .i64 (k : Int) ∧ Hid (Mx w ws b (upTo k (numsK (mixK g (n + 1))) (numsK (mixK g n))) tb (fun j => ofK (powK (n + 1) (mixK g n) j))))
          case atStart => exact ⟨0, by omega, rfl, rfl, HM3⟩
          case round =>
            clear HM3
            obtain ⟨k, hk, rfl, rfl, HM⟩ := hrel
            by_cases hlt2 : k < 3
            · have c0 := HM.out.tr 0 (by omega)
              have c1 := HM.out.tr 1 (by omega)
              have c2 := HM.out.tr 2 (by omega)
              have ck := HM.out.tr k hlt2
              have cs := HM.out.r k hlt2
              have fs := HM.out.f k hlt2
              have hval := turn_val (mixK g n) (n + 1) k
              have r0 := ofK_rng (powK (n + 1) (mixK g n) 0)
              have r1 := ofK_rng (powK (n + 1) (mixK g n) 1)
              have r2 := ofK_rng (powK (n + 1) (mixK g n) 2)
              have rk := ofK_rng (powK (n + 1) (mixK g n) k)
              obtain ⟨p0, h0⟩ : ∃ x, ofK (powK (n + 1) (mixK g n) 0) = x := ⟨_, rfl⟩
              obtain ⟨p1, h1⟩ : ∃ x, ofK (powK (n + 1) (mixK g n) 1) = x := ⟨_, rfl⟩
              obtain ⟨p2, h2⟩ : ∃ x, ofK (powK (n + 1) (mixK g n) 2) = x := ⟨_, rfl⟩
              obtain ⟨pk, hpk⟩ : ∃ x, ofK (powK (n + 1) (mixK g n) k) = x := ⟨_, rfl⟩
              obtain ⟨z, hz⟩ : ∃ z, upTo k (numsK (mixK g (n + 1))) (numsK (mixK g n)) k = z := ⟨_, rfl⟩
              rw [Nat.zero_add] at c0 c1 c2 ck cs fs
              rw [h0] at c0 r0 hval
              rw [h1] at c1 r1 hval
              rw [h2] at c2 r2 hval
              rw [hpk] at ck rk hval
              rw [hz] at cs
              have HVA := hid hval
              obtain ⟨r00, r01⟩ := r0
              obtain ⟨r10, r11⟩ := r1
              obtain ⟨r20, r21⟩ := r2
              obtain ⟨rk0, rk1⟩ := rk
              obtain ⟨a0, a1⟩ := addQ_rng p0 p1
              obtain ⟨d0, d1⟩ := addQ_rng p2 pk
              clear hval h0 h1 h2 hpk hz
              have k0 : (0 : Int) ≤ (k : Int) := by omega
              have k1 : (k : Int) < 3 := by omega
              go_wp2_with fail
              refine wp_region_still_tail 17 Tryd.mixedS (by kernel_rfl) ?_
              simp only [List.take_succ_cons, List.take_zero, List.drop_succ_cons, List.drop_zero]
              iterate 6 still_step
              still_call (radd_any p0 p1 _ (by omega) (by omega) (by omega) (by omega))
              iterate 5 still_step
              still_call (radd_any p2 pk _ (by omega) (by omega) (by omega) (by omega))
              still_call (radd_any (addQ p0 p1) (addQ p2 pk) _ (by omega) (by omega) (by omega) (by omega))
              iterate 3 still_step
              refine wpStill_nil ?_
              go_wp2_with fail
              go_roundg (3 - (k + 1))
              case measure => go_light; omega
              case rel => exact ⟨k + 1, by omega, rfl, by go_num, hid (((HM.out.drew).putS hne k hlt2 _).congr (fun j _ => upTo_step k _ _ _ HVA.out j) fun _ _ => rfl)⟩
            · have e : k = 3 := by omega
              subst e
              go_wp2_with fail
              go_roundg (8 - (n + 1))
              case measure => go_light; omega
              case rel => exact ⟨n + 1, by omega, rfl, by go_num, hid HM.out.t, hid (HM.out.r.congr fun j hj => by rw [upTo, if_pos hj]), hid HM.out.f⟩
    · have e : n = 8 := by omega
      subst e
      go_wp2_with fail
      go_end0
      exact ⟨rfl, HTU.out, HR.out, HF.out⟩

end Go.Proofs.YtpkdkgpfjpalnaaDoor

/-
  Contracts of tallyref's Sponge: Give and Take; each turns the sponge's own block, makes new ones, and writes nothing else that was there.
-/
namespace Go.Proofs.YtpkdkgpfjpalnaaDoor
open Go.RowKit
set_option linter.unusedVariables false
attribute [local go_sem ↓] Go.wp_at_zero Go.wp_at_succ

set_option maxHeartbeats 1000000 in
theorem rgive_any (b : Nat) (g : Nat → K) (w : World) (hr : Row w b 0 3 (numsK g)) (hf : Free w b 0 3) :
    Calls Tryd.prog 85 #[.pointer (some ⟨b, 0, none⟩)] w fun e w' => e = .returned (.int .u64 (ofK (g 1))) ∧ Turned b w w' ∧ Row w' b 0 3 (numsK (mixed g)) ∧ Free w' b 0 3 := by
  have HM := hid (rmix_any b g w hr hf)
  have c1 := hr 1 (by omega)
  rw [Nat.zero_add] at c1
  obtain ⟨y, hy⟩ : ∃ y, ofK (g 1) = y := ⟨_, rfl⟩
  have hy2 : numsK g 1 = y := hy
  rw [hy2] at c1
  rw [hy]
  clear hr hf hy hy2
  go_enter Tryd.func85, Tryd.ntmps85
  go_wp2_with (go_at_call 106; refine (HM.out).mono ?_; rintro e w1 ⟨rfl, ht, hr, hf⟩; have HT := hid ht; have HR := hid hr; have HF := hid hf; clear ht hr hf)
  go_ret
  exact ⟨rfl, HT.out, HR.out, HF.out⟩

/-- A sponge's numbers behind k steps of Take. -/
def stK (g : Nat → K) (n : Nat) (f : Nat → Int) : Nat → Nat → K
  | 0 => g
  | k + 1 => takesK g n f k
theorem stK_step (g : Nat → K) (n : Nat) (f : Nat → Int) (k : Nat) : takeK (stK g n f k) (if k = 0 then kn n else kk (f (k - 1))) = stK g n f (k + 1) := by
  cases k with
  | zero => rfl
  | succ k => rw [if_neg (by omega)]; rfl
set_option maxHeartbeats 4000000 in
set_option maxRecDepth 100000 in
theorem rtake_any (b : Nat) (g : Nat → K) (ao : Option Addr) (n cap : Nat) (f : Nat → Int) (w : World) (hr : Row w b 0 3 (numsK g)) (hf : Free w b 0 3) (hn : n ≤ 1000) (hp : PRow w ao n f) (hv : Nums f) (hne : 0 < n → ∀ c o, ao = some ⟨c, o, none⟩ → c ≠ b) :
    Calls Tryd.prog 84 #[.pointer (some ⟨b, 0, none⟩), .slice ao n cap] w fun e w' => e = .returned (.tuple #[]) ∧ Turned b w w' ∧ Row w' b 0 3 (numsK (takesK g n f n)) ∧ Free w' b 0 3 := by
  have HR := hid hr
  have HF := hid hf
  have HP := hid hp
  have HV := hid hv
  have HNE := hid hne
  clear hr hf hp hv hne
  go_enter Tryd.func84, Tryd.ntmps84
  go_wp2_with fail
  go_loopg [4] (n + 1) (fun q i wr => ∃ (k : Nat) (t : Int), k ≤ n + 1 ∧ q = n + 1 - k ∧ i = .int .i64 t ∧ Hid (t = (k : Int) - 1) ∧ Hid (Turned b w wr) ∧ Hid (Row wr b 0 3 (numsK (stK g n f k))) ∧ Hid (Free wr b 0 3))
  case atStart => exact ⟨0, -1, by omega, rfl, rfl, hid rfl, hid (Turned.refl _ _), HR, HF⟩
  case round =>
    clear HR HF
    obtain ⟨k, t, hk, rfl, rfl, HT, HTU, HR, HF⟩ := hrel
    by_cases hlt : k < n + 1
    · have c1 := HR.out 0 (by omega)
      have f1 := HF.out 0 (by omega)
      rw [Nat.zero_add] at c1 f1
      obtain ⟨s, hs⟩ : ∃ s, ofK (stK g n f k 0) = s := ⟨_, rfl⟩
      have hs2 : numsK (stK g n f k) 0 = s := hs
      have sr := ofK_rng (stK g n f k 0)
      rw [hs] at sr
      rw [hs2] at c1
      obtain ⟨s0, s1⟩ := sr
      by_cases hk0 : k = 0
      · have ht : t = -1 := by have := HT.out; omega
        subst ht
        have hst := add_row (x := (n : Int)) HR.out HF.out
        rw [hs] at hst
        have HST := hid hst
        have HX : Hid (kk (n : Int) = if k = 0 then kn n else kk (f (k - 1))) := hid (by rw [if_pos hk0]; rfl)
        clear hs hs2 hst hk0
        have wn : IntKind.u64.wrap (n : Int) = (n : Int) := by rw [IntKind.wrap_u64]; omega
        have n0 : (-1 : Int) < (n : Int) := by omega
        go_wp2_with fail
        refine wp_region_still_tail 11 Tryd.mixedS (by kernel_rfl) ?_
        simp only [List.take_succ_cons, List.take_zero, List.drop_succ_cons, List.drop_zero]
        iterate 7 still_step
        still_call (radd_any s (n : Int) _ (by omega) (by omega) (by omega) (by omega))
        iterate 3 still_step
        refine wpStill_nil ?_
        go_wp2_with fail
        refine (rmix_any b _ _ (by exact HST.out.1) (by exact HST.out.2)).mono ?_
        rintro e w1 ⟨rfl, ht1, hr1, hf1⟩
        have HT1 : Hid (Turned b w w1) := hid ((HTU.out.setCell 0 (.int .u64 (addQ s (n : Int)))).trans ⟨ht1.os, ht1.tape, ht1.output, ht1.size, ht1.block⟩)
        have HR1 : Hid (Row w1 b 0 3 (numsK (stK g n f (k + 1)))) := hid (by rw [← stK_step, ← HX.out]; exact hr1)
        have HF1 := hid hf1
        clear ht1 hr1 hf1
        go_wp2_with fail
        go_roundg (n + 1 - (k + 1))
        case measure => go_light; omega
        case rel => exact ⟨k + 1, _, by omega, rfl, rfl, hid (by have := HT.out; omega), HT1, HR1, HF1⟩
      · obtain ⟨j, hj⟩ : ∃ j : Nat, k = j + 1 := ⟨k - 1, by omega⟩
        have ht : t = (j : Int) := by have := HT.out; omega
        subst ht
        obtain ⟨bl, ol, rfl, hrl⟩ := HP.out (by omega)
        have cl := (hrl.turned HTU.out (HNE.out (by omega) bl ol rfl)) j (by omega)
        obtain ⟨x, hx⟩ : ∃ x, f j = x := ⟨_, rfl⟩
        have bx := HV.out j
        rw [hx] at cl bx
        obtain ⟨x0, x1⟩ := bx
        have hst := add_row (x := x) HR.out HF.out
        rw [hs] at hst
        have HST := hid hst
        have HX : Hid (kk x = if k = 0 then kn n else kk (f (k - 1))) := hid (by rw [if_neg hk0, hj, Nat.add_sub_cancel, hx])
        clear hs hs2 hst hk0 hrl hx
        have j0 : (0 : Int) ≤ (j : Int) := by omega
        have j1 : (j : Int) < (n : Int) := by omega
        go_wp2_with fail
        refine wp_region_still_tail 11 Tryd.mixedS (by kernel_rfl) ?_
        simp only [List.take_succ_cons, List.take_zero, List.drop_succ_cons, List.drop_zero]
        iterate 7 still_step
        still_call (radd_any s x _ (by omega) (by omega) (by omega) (by omega))
        iterate 3 still_step
        refine wpStill_nil ?_
        go_wp2_with fail
        refine (rmix_any b _ _ (by exact HST.out.1) (by exact HST.out.2)).mono ?_
        rintro e w1 ⟨rfl, ht1, hr1, hf1⟩
        have HT1 : Hid (Turned b w w1) := hid ((HTU.out.setCell 0 (.int .u64 (addQ s x))).trans ⟨ht1.os, ht1.tape, ht1.output, ht1.size, ht1.block⟩)
        have HR1 : Hid (Row w1 b 0 3 (numsK (stK g n f (k + 1)))) := hid (by rw [← stK_step, ← HX.out]; exact hr1)
        have HF1 := hid hf1
        clear ht1 hr1 hf1
        go_wp2_with fail
        go_roundg (n + 1 - (k + 1))
        case measure => go_light; omega
        case rel => exact ⟨k + 1, _, by omega, rfl, rfl, hid (by have := HT.out; omega), HT1, HR1, HF1⟩
    · have e : k = n + 1 := by omega
      subst e
      have ht : t = (n : Int) := by have := HT.out; omega
      subst ht
      go_wp2_with fail
      go_end0
      exact ⟨rfl, HTU.out, HR.out, HF.out⟩

end Go.Proofs.YtpkdkgpfjpalnaaDoor

/-
  Contracts of tallyref's NewSponge and Pair, each for every input: they answer what the functions of the text Spong tell, and write nothing that was there.
-/
namespace Go.Proofs.YtpkdkgpfjpalnaaDoor
open Go.RowKit
set_option linter.unusedVariables false
attribute [local go_sem ↓] Go.wp_at_zero Go.wp_at_succ

theorem set3_new (word : Int) (j : Nat) : set3 0 1 (nrm word) j = numsK (newK word) j := by
  unfold set3 numsK newK
  by_cases h0 : j = 0
  · rw [if_pos h0, if_pos h0]; rfl
  · rw [if_neg h0, if_neg h0]
    by_cases h1 : j = 1
    · rw [if_pos h1, if_pos h1]; rfl
    · rw [if_neg h1, if_neg h1]; exact nrm_ofK word

set_option maxHeartbeats 1000000 in
theorem rnew_any (word : Int) (w : World) (h0 : 0 ≤ word) (h1 : word ≤ 18446744073709551615) :
    Calls Tryd.prog 83 #[.int .u64 word] w fun e w' => e = .returned (.pointer (some ⟨w.heap.size, 0, none⟩)) ∧ Below w.heap.size w w' ∧ w.heap.size < w'.heap.size ∧ Row w' w.heap.size 0 3 (numsK (mixed (newK word))) ∧ Free w' w.heap.size 0 3 := by
  obtain ⟨z, hz⟩ : ∃ z, nrm word = z := ⟨_, rfl⟩
  have hN := rnorm_any word w h0 h1
  rw [hz] at hN
  have HN := hid hN
  obtain ⟨hr, hf⟩ := row_new3 w 0 1 z 159
  have hM := rmix_any w.heap.size (newK word) _ (hr.congr fun j _ => by rw [← hz]; exact set3_new word j) hf
  have HM := hid hM
  have hlt := hr.lt (by omega)
  have HB : Hid (Below w.heap.size w (w.alloc (.cells #[.int .u64 0, .int .u64 1, .int .u64 z] 159))) := hid ((Below.refl _ w).alloc (Nat.le_refl _) _)
  have HLT := hid hlt
  clear hr hf hM hlt hN hz
  go_enter Tryd.func83, Tryd.ntmps83
  go_wp2_with (first
    | (go_at_call 47; refine (HN.out).mono ?_; rintro e w' ⟨rfl, hw⟩; obtain rfl := hw.symm)
    | (go_at_call 106; refine (HM.out).mono ?_; rintro e w1 ⟨rfl, ht, hr, hf⟩; have HT := hid ht; have HR := hid hr; have HF := hid hf; clear ht hr hf))
  go_ret
  exact ⟨rfl, HB.out.trans (HT.out.below (Nat.le_refl _) HB.out.size), Nat.lt_of_lt_of_le HLT.out HT.out.size, HR.out, HF.out⟩

set_option maxHeartbeats 1000000 in
set_option maxRecDepth 100000 in
theorem rpair_any (a b : Int) (w : World) (h0 : 0 ≤ a) (h1 : a ≤ 18446744073709551615) (g0 : 0 ≤ b) (g1 : b ≤ 18446744073709551615) :
    Calls Tryd.prog 86 #[.int .u64 a, .int .u64 b] w fun e w' => e = .returned (.int .u64 (ofK (pairK a b))) ∧ Below w.heap.size w w' := by
  have HN := hid (rnew_any 7 w (by omega) (by omega))
  go_enter Tryd.func86, Tryd.ntmps86
  go_wp2_with fail
  refine (HN.out).mono ?_
  rintro e w1 ⟨rfl, hb, hlt, hr, hf⟩
  have hB : Below w1.heap.size w1 (w1.alloc (.cells #[.int .u64 a, .int .u64 b] 45)) := (Below.refl _ w1).alloc (Nat.le_refl _) _
  have hT := rtake_any w.heap.size _ (some ⟨w1.heap.size, 0, none⟩) 2 2 (pairF a b) _ (hr.kept hB hlt) (hf.kept hB hlt) (by omega) (PRow.of (pair_lit w1 a b 45)) (Nums_pair h0 h1 g0 g1) (fun _ c o e => by injection e with e; injection e with e1 e2; omega)
  have HB : Hid (Below w.heap.size w (w1.alloc (.cells #[.int .u64 a, .int .u64 b] 45))) := hid (hb.trans (hB.mono hb.size))
  have HT := hid hT
  clear hb hr hf hB hT HN
  go_wp2_with fail
  refine (HT.out).mono ?_
  rintro e w2 ⟨rfl, ht, hr, hf⟩
  have HB2 : Hid (Below w.heap.size w w2) := hid (HB.out.trans (ht.below (Nat.le_refl _) HB.out.size))
  have HG := hid (rgive_any w.heap.size _ w2 hr hf)
  clear ht hr hf HB HT
  go_wp2_with fail
  refine (HG.out).mono ?_
  rintro e w3 ⟨rfl, ht, hr, hf⟩
  have HB3 : Hid (Below w.heap.size w w3) := hid (HB2.out.trans (ht.below (Nat.le_refl _) HB2.out.size))
  clear ht hr hf
  go_wp2_with fail
  go_ret
  exact ⟨rfl, HB3.out⟩

end Go.Proofs.YtpkdkgpfjpalnaaDoor

/-
  Contracts of tallyref's Root, for every table, each for every input; they write nothing that was there.
-/
namespace Go.Proofs.YtpkdkgpfjpalnaaDoor
open Go.RowKit
set_option linter.unusedVariables false
attribute [local go_sem ↓] Go.wp_at_zero Go.wp_at_succ

theorem Nums_part {f : Nat → Int} (h : Nums f) (k : Nat) : Nums (fun j => f (k + j)) := fun j => h _
theorem Row.half {w : World} {b off h : Nat} {f : Nat → Int} (r : Row w b off (2 * h) f) : Row w b off h f ∧ Row w b (off + h) h (fun j => f (h + j)) :=
  ⟨fun j hj => r j (by omega), fun j hj => by have := r (h + j) (by omega); rw [← Nat.add_assoc] at this; exact this⟩

theorem rpair_roots (n m : Nat) (F G : Nat → Int) (W : World) : Calls Tryd.prog 86 #[.int .u64 (rootQ n F), .int .u64 (rootQ m G)] W fun e w' => e = .returned (.int .u64 (prQ (rootQ n F) (rootQ m G))) ∧ Below W.heap.size W w' := by
  have r0 := rootQ_rng n F
  have r1 := rootQ_rng m G
  exact rpair_any _ _ W (by omega) (by omega) (by omega) (by omega)

set_option maxHeartbeats 1000000 in
set_option maxRecDepth 100000 in
theorem rroot_any (n : Nat) : ∀ (N b off cap : Nat) (f : Nat → Int) (w : World), n ≤ 8 → N = 2 ^ n → N ≤ cap → Row w b off N f → Nums f →
    Calls Tryd.prog 51 #[.slice (some ⟨b, off, none⟩) N cap] w fun e w' => e = .returned (.int .u64 (rootQ n f)) ∧ Below w.heap.size w w' := by
  induction n with
  | zero =>
    intro N b off cap f w _ hN hc hr hv
    have c0 := hr 0 (by omega)
    rw [Nat.add_zero] at c0
    have v0 := hv 0
    have he : prQ (f 0) 0 = rootQ 0 f := rfl
    obtain ⟨x, hx⟩ : ∃ x, f 0 = x := ⟨_, rfl⟩
    rw [hx] at c0 v0 he
    obtain ⟨v00, v01⟩ := v0
    have HE := hid he
    have hN1 : N = 1 := hN
    subst hN1
    clear hN hr hv hx he
    have HP := hid (rpair_any x 0 w (by omega) (by omega) (by omega) (by omega))
    go_enter Tryd.func51, Tryd.ntmps51
    go_wp2_with (go_at_call 86; refine (HP.out).mono ?_; rintro e w1 ⟨rfl, hb⟩; have HB := hid hb; clear hb)
    go_ret
    exact ⟨ret_u64 HE.out, HB.out⟩
  | succ n ih =>
    intro N b off cap f w hn hN hc hr hv
    obtain ⟨h, hh⟩ : ∃ h, 2 ^ n = h := ⟨_, rfl⟩
    have hN2 : N = 2 * h := by rw [hN, two_pow_succ, hh]; omega
    have hN8 : 2 ^ n ≤ 2 ^ 7 := Nat.pow_le_pow_right (by omega) (by omega)
    rw [hh] at hN8
    have h1 : 1 ≤ h := by rw [← hh]; exact Nat.one_le_two_pow
    subst hN2
    obtain ⟨hr1, hr2⟩ := hr.half
    have hlt := hr1.lt h1
    have HC := hid (fun (o m c : Nat) (W : World) (ho : off ≤ o) (ho2 : o ≤ off + h) (hm : m = h) (hc2 : m ≤ c) (hb : Below w.heap.size w W) => ih m b o c (fun j => f (o - off + j)) W (by omega) (by rw [hm, hh]) hc2 (fun j hj => by have := (hr.kept hb hlt) (o - off + j) (by omega); rw [show off + (o - off + j) = o + j from by omega] at this; exact this) (Nums_part hv _))
    have HE2 := hid (fun (F G : Nat → Int) (h1 : ∀ j, F j = f j) (h2 : ∀ j, G j = f (h + j)) => show prQ (rootQ n F) (rootQ n G) = rootQ (n + 1) f by rw [funext h1, funext h2, rootQ, hh])
    have hcn : ¬ cap = h := by omega
    have HP := hid (fun F G W => rpair_roots n n F G W)
    clear ih hr hv hr1 hr2 hN hn hh
    have i0 : (h : Int) ≤ (cap : Int) := by omega
    have i1 : (h : Int) ≤ ((2 * h : Nat) : Int) := by omega
    have i2 : (0 : Int) ≤ (h : Int) := by omega
    have e1 : (((2 * h : Nat) : Int) == 1) = false := beq_eq_false_iff_ne.2 (by omega)
    go_enter Tryd.func51, Tryd.ntmps51
    go_wp2_with fail
    have q2 : (2 * (h : Int)).tdiv 2 = (h : Int) := by rw [Int.mul_comm, Int.mul_tdiv_cancel _ (by omega)]
    have q3 : IntKind.i64.wrap (h : Int) = (h : Int) := IntWalk.i64_in _ (by omega)
    go_region_with (first
      | (go_at_call 51; refine (HC.out _ _ _ _ (by omega) (by omega) (by omega) (by omega) (by first | exact hb2 | exact Below.refl _ _ | exact (Below.refl _ w).drew)).mono ?_; rintro e w1 ⟨rfl, hb1⟩; have hb2 : Below w.heap.size w w1 := (by first | exact hb2.trans (hb1.mono hb2.size) | exact hb1 | exact (Below.refl _ w).drew.trans hb1); clear hb1)
      | (go_at_call 86; refine (HP.out _ _ _).mono ?_; rintro e w3 ⟨rfl, hb5⟩; have hb6 : Below w.heap.size w w3 := hb2.trans (hb5.mono hb2.size); clear hb5))
    all_goals (go_wp2_with fail)
    all_goals go_ret
    all_goals exact ⟨ret_u64 (HE2.out _ _ (fun j => by first | rfl | (congr 1; omega)) (fun j => by first | rfl | (congr 1; omega))), hb6⟩

end Go.Proofs.YtpkdkgpfjpalnaaDoor

/-
  Contracts of tallyref's Path, for every table and place; it makes new lists and writes nothing that was there.
-/
namespace Go.Proofs.YtpkdkgpfjpalnaaDoor
open Go.RowKit
set_option linter.unusedVariables false
attribute [local go_sem ↓] Go.wp_at_zero Go.wp_at_succ

theorem news_one (w : World) (x : Int) (t : TypeId) : ∀ j u, [Value.int .u64 x][j]? = some u → (w.alloc (.cells #[.int .u64 x] t)).cell? ((⟨w.heap.size, 0, none⟩ : Addr).add j) = some u := by
  intro j u hj
  match j, hj with
  | 0, hj => simp at hj; subst hj; simp [Addr.add]
theorem one_cell (x : Int) : ∀ u ∈ [Value.int .u64 x], u.oneCell' = true := by intro u hu; simp at hu; subst hu; rfl
/-- One number more behind a list of the call's own. -/
theorem own_snoc {w w1 w2 : World} {v : Value} {n g c : Nat} {f F : Nat → Int} {x : Int} {t : TypeId} (hb : Below w.heap.size w w1) (ho : Own w1 w.heap.size v n f)
    (hown : w2.ownsRow w.heap.size 45 1 (.slice (some ⟨g, 0, none⟩) (n + 1) c) (n + 1) (cellsOf n f ++ [.int .u64 x])) (hg : (w1.alloc (.cells #[.int .u64 x] t)).grownBy w2 v.ownBlock)
    (hF : ∀ j, j < n → f j = F j) (hx : x = F n) : Own w2 w.heap.size (.slice (some ⟨g, 0, none⟩) (n + 1) c) (n + 1) F ∧ Below w.heap.size w w2 := by
  refine ⟨?_, (hb.alloc hb.size _).grown hg (by have := hb.size; simp; omega) (by intro t ht; exact (World.ownsRow.lt ho t ht).1)⟩
  rw [cellsOf_snoc] at hown
  exact Own.congr hown fun j hj => by
    unfold catF
    by_cases e : j < n
    · rw [if_pos e]; exact hF j e
    · rw [if_neg e, show j = n from by omega]; exact hx

set_option maxHeartbeats 4000000 in
set_option maxRecDepth 100000 in
theorem rpath_any (n : Nat) : ∀ (N b off cap i : Nat) (f : Nat → Int) (w : World), n ≤ 8 → N = 2 ^ n → N ≤ cap → Row w b off N f → Nums f → i < N →
    Calls Tryd.prog 52 #[.slice (some ⟨b, off, none⟩) N cap, .int .i64 (i : Int)] w fun e w' => ∃ v, e = .returned v ∧ Own w' w.heap.size v n (pathQ n f i) ∧ Below w.heap.size w w' := by
  induction n with
  | zero =>
    intro N b off cap i f w _ hN hc hr hv hi
    have hN1 : N = 1 := hN
    subst hN1
    clear hN hr hv
    go_enter Tryd.func52, Tryd.ntmps52
    go_wp2_with fail
    go_ret
    exact ⟨_, rfl, Own.nil _ _ _, Below.refl _ _⟩
  | succ n ih =>
    intro N b off cap i f w hn hN hc hr hv hi
    obtain ⟨h, hh⟩ : ∃ h, 2 ^ n = h := ⟨_, rfl⟩
    have hN2 : N = 2 * h := by rw [hN, two_pow_succ, hh]; omega
    have hN8 : 2 ^ n ≤ 2 ^ 7 := Nat.pow_le_pow_right (by omega) (by omega)
    rw [hh] at hN8
    have h1 : 1 ≤ h := by rw [← hh]; exact Nat.one_le_two_pow
    subst hN2
    obtain ⟨hr1, hr2⟩ := hr.half
    have hlt := hr1.lt h1
    have hcn : ¬ cap = h := by omega
    have i0 : (h : Int) ≤ (cap : Int) := by omega
    have i1 : (h : Int) ≤ 2 * (h : Int) := by omega
    have i2 : (0 : Int) ≤ (h : Int) := by omega
    have e1 : (((2 * h : Nat) : Int) == 1) = false := beq_eq_false_iff_ne.2 (by omega)
    obtain ⟨i9, hi9, hz0, hz1, hz2⟩ := info_parts Tryd.infoO
    have HI := hid (And.intro hi9 (And.intro hz0 (And.intro hz1 hz2)))
    clear hi9 hz0 hz1 hz2
    by_cases hlow : i < h
    · have HC := hid (fun (m c : Nat) (q : Int) (W : World) (hm : m = h) (hc2 : m ≤ c) (hq : q = i) (hb : Below w.heap.size w W) => (by rw [hq]; exact ih m b off c i f W (by omega) (by rw [hm, hh]) hc2 (fun j hj => (hr.kept hb hlt) j (by omega)) hv (by omega) : Calls Tryd.prog 52 #[.slice (some ⟨b, off, none⟩) m c, .int .i64 q] W fun e w' => ∃ v, e = .returned v ∧ Own w' W.heap.size v n (pathQ n f i) ∧ Below W.heap.size W w'))
      obtain ⟨x, hx⟩ : ∃ x, rootQ n (fun j => f (h + j)) = x := ⟨_, rfl⟩
      have HR := hid (fun (m c : Nat) (W : World) (hm : m = h) (hc2 : m ≤ c) (hb : Below w.heap.size w W) => (by have := rroot_any n m b (off + h) c (fun j => f (h + j)) W (by omega) (by rw [hm, hh]) hc2 (fun j hj => (hr2.kept hb hlt) j (by omega)) (Nums_part hv _); rw [hx] at this; exact this : Calls Tryd.prog 51 #[.slice (some ⟨b, off + h, none⟩) m c] W fun e w' => e = .returned (.int .u64 x) ∧ Below W.heap.size W w'))
      have HF : Hid (∀ j, j < n → pathQ n f i j = pathQ (n + 1) f i j) := hid (fun j hj => by rw [pathQ, hh, if_pos hlow, if_pos hj])
      have HX : Hid (x = pathQ (n + 1) f i n) := hid (by rw [pathQ, hh, if_pos hlow, if_neg (Nat.lt_irrefl n), hx])
      have hlw : (i : Int) < (h : Int) := by omega
      clear ih hr hv hr1 hr2 hN hh hx
      go_enter Tryd.func52, Tryd.ntmps52
      go_wp2_with fail
      go_region_held3 (fun _ => True) (trivial) (first
        | (go_at_call 52; refine (HC.out _ _ _ _ (by omega) (by omega) (by omega) (by exact (Below.refl _ w).drew)).mono ?_; rintro e w1 ⟨v, rfl, ho, hb⟩; have hb1 : Below w.heap.size w w1 := (by exact (Below.refl _ w).drew.trans hb); have HO1 : Hid (Own w1 w.heap.size v n (pathQ n f i)) := hid (by exact ho); clear ho hb)
        | (go_at_call 51; refine (HR.out _ _ _ (by omega) (by omega) (by exact hb1)).mono ?_; rintro e w2 ⟨rfl, hb⟩; have hb2 : Below w.heap.size w w2 := hb1.trans (hb.mono hb1.size); have HO2 : Hid (Own w2 w.heap.size v n (pathQ n f i)) := hid (HO1.out.kept hb); have hs2 := hb2.size; clear hb)
        | (refine step_append_lies _ (by rfl) _ _ 25 (by rfl) w.heap.size 45 i9 (.int .u64 0) 1 8 Tryd.underlying25 HI.out.1 HI.out.2.1 HI.out.2.2.1 HI.out.2.2.2 rfl (by decide) v n (cellsOf n (pathQ n f i)) (by rfl) (World.ownsRow.alloc HO2.out _) ⟨w2.heap.size, 0, none⟩ 1 1 [.int .u64 x] (by rfl) (by rfl) (news_one w2 x _) (one_cell x) (by omega) (by unfold maxLen; omega) (by omega) (by simp; omega) (w2.heap.size + 1) (by simp) ?_; intro g3 c3 w3 hown3 hgrow3 hat3 hlt3))
      all_goals (have HS := hid (own_snoc (F := pathQ (n + 1) f i) hb2 HO2.out hown3 hgrow3 HF.out HX.out); clear hown3 hgrow3 hat3)
      all_goals (go_wp2_with fail)
      all_goals go_ret
      all_goals exact ⟨_, rfl, HS.out.1, HS.out.2⟩
    · have HC := hid (fun (m c : Nat) (q : Int) (W : World) (hm : m = h) (hc2 : m ≤ c) (hq : q = (i : Int) - h) (hb : Below w.heap.size w W) => (by rw [hq, show (i : Int) - h = ((i - h : Nat) : Int) from by omega]; exact ih m b (off + h) c (i - h) (fun j => f (h + j)) W (by omega) (by rw [hm, hh]) hc2 (fun j hj => (hr2.kept hb hlt) j (by omega)) (Nums_part hv _) (by omega) : Calls Tryd.prog 52 #[.slice (some ⟨b, off + h, none⟩) m c, .int .i64 q] W fun e w' => ∃ v, e = .returned v ∧ Own w' W.heap.size v n (pathQ n (fun j => f (h + j)) (i - h)) ∧ Below W.heap.size W w'))
      obtain ⟨x, hx⟩ : ∃ x, rootQ n f = x := ⟨_, rfl⟩
      have HR := hid (fun (m c : Nat) (W : World) (hm : m = h) (hc2 : m ≤ c) (hb : Below w.heap.size w W) => (by have := rroot_any n m b off c f W (by omega) (by rw [hm, hh]) hc2 (fun j hj => (hr1.kept hb hlt) j (by omega)) hv; rw [hx] at this; exact this : Calls Tryd.prog 51 #[.slice (some ⟨b, off, none⟩) m c] W fun e w' => e = .returned (.int .u64 x) ∧ Below W.heap.size W w'))
      have HF : Hid (∀ j, j < n → pathQ n (fun j => f (h + j)) (i - h) j = pathQ (n + 1) f i j) := hid (fun j hj => by rw [pathQ, hh, if_neg hlow, if_pos hj])
      have HX : Hid (x = pathQ (n + 1) f i n) := hid (by rw [pathQ, hh, if_neg hlow, if_neg (Nat.lt_irrefl n), hx])
      have hlw : ¬ (i : Int) < (h : Int) := by omega
      have hws : IntKind.i64.wrap ((i : Int) - (h : Int)) = (i : Int) - (h : Int) := IntWalk.i64_in _ (by omega)
      clear ih hr hv hr1 hr2 hN hh hx
      go_enter Tryd.func52, Tryd.ntmps52
      go_wp2_with fail
      go_region_held3 (fun _ => True) (trivial) (first
        | (go_at_call 52; refine (HC.out _ _ _ _ (by omega) (by omega) (by omega) (by exact (Below.refl _ w).drew)).mono ?_; rintro e w1 ⟨v, rfl, ho, hb⟩; have hb1 : Below w.heap.size w w1 := (by exact (Below.refl _ w).drew.trans hb); have HO1 : Hid (Own w1 w.heap.size v n (pathQ n (fun j => f (h + j)) (i - h))) := hid (by exact ho); clear ho hb)
        | (go_at_call 51; refine (HR.out _ _ _ (by omega) (by omega) (by exact hb1)).mono ?_; rintro e w2 ⟨rfl, hb⟩; have hb2 : Below w.heap.size w w2 := hb1.trans (hb.mono hb1.size); have HO2 : Hid (Own w2 w.heap.size v n (pathQ n (fun j => f (h + j)) (i - h))) := hid (HO1.out.kept hb); have hs2 := hb2.size; clear hb)
        | (refine step_append_lies _ (by rfl) _ _ 25 (by rfl) w.heap.size 45 i9 (.int .u64 0) 1 8 Tryd.underlying25 HI.out.1 HI.out.2.1 HI.out.2.2.1 HI.out.2.2.2 rfl (by decide) v n (cellsOf n (pathQ n (fun j => f (h + j)) (i - h))) (by rfl) (World.ownsRow.alloc HO2.out _) ⟨w2.heap.size, 0, none⟩ 1 1 [.int .u64 x] (by rfl) (by rfl) (news_one w2 x _) (one_cell x) (by omega) (by unfold maxLen; omega) (by omega) (by simp; omega) (w2.heap.size + 1) (by simp) ?_; intro g3 c3 w3 hown3 hgrow3 hat3 hlt3))
      all_goals (have HS := hid (own_snoc (F := pathQ (n + 1) f i) hb2 HO2.out hown3 hgrow3 HF.out HX.out); clear hown3 hgrow3 hat3)
      all_goals (go_wp2_with fail)
      all_goals go_ret
      all_goals exact ⟨_, rfl, HS.out.1, HS.out.2⟩

end Go.Proofs.YtpkdkgpfjpalnaaDoor

/-
  Memory of tallyref's Proof: lists of lists and lists of parts that the call itself appends to through boxes: what an append leaves, what stays; no program in it.
-/
namespace Go.Proofs.YtpkdkgpfjpalnaaDoor
open Go.RowKit
set_option linter.unusedVariables false

theorem nbel (w : World) (o : Obj) : Below w.heap.size w (w.alloc o) := (Below.refl _ w).alloc (Nat.le_refl _) o
theorem nkeep {W W' : World} (hb : Below W.heap.size W W') {a : Addr} {v : Value} (h : W.cell? a = some v) : W'.cell? a = some v := (hb.cell (World.block_lt_of_cell? W _ h)).trans h
/-- All blocks from base on are kept. -/
structure Kp (base : Nat) (W W' : World) : Prop where
  size : W.heap.size ≤ W'.heap.size
  block : ∀ b, base ≤ b → b < W.heap.size → W'.heap[b]? = W.heap[b]?
theorem Kp.of {base : Nat} {W W' : World} (h : Below W.heap.size W W') : Kp base W W' := ⟨h.size, fun b _ hb => h.block b hb⟩
theorem Kp.set (base : Nat) (W : World) {X j : Nat} (u : Value) (hX : X < base) : Kp base W (W.setCell ⟨X, j, none⟩ u) := ⟨by rw [World.size_setCell]; exact Nat.le_refl _, fun b hb _ => Below.heap_setCell _ _ _ _ (by show b ≠ X; omega)⟩
theorem Kp.trans {base : Nat} {W W' W'' : World} (h : Kp base W W') (g : Kp base W' W'') : Kp base W W'' := ⟨Nat.le_trans h.size g.size, fun b h1 h2 => (g.block b h1 (Nat.lt_of_lt_of_le h2 h.size)).trans (h.block b h1 h2)⟩
theorem Kp.mono {base base' : Nat} {W W' : World} (h : Kp base W W') (hb : base ≤ base') : Kp base' W W' := ⟨h.size, fun b h1 h2 => h.block b (by omega) h2⟩
theorem Kp.owns {base : Nat} {W W' : World} (h : Kp base W W') {t : TypeId} {s n : Nat} {v : Value} {l : List Value} (ho : W.ownsRow base t s v n l) : W'.ownsRow base t s v n l := by
  refine ⟨ho.1, ?_⟩
  rcases ho.2 with h2 | ⟨g, cap, cur, hv, hg, hh, r⟩
  · exact .inl h2
  · have hlt : g < W.heap.size := (Array.getElem?_eq_some_iff.1 hh).1
    exact .inr ⟨g, cap, cur, hv, hg, (h.block g hg hlt).trans hh, r⟩
theorem Kp.prow {base : Nat} {W W' : World} (h : Kp base W W') {ao : Option Addr} {n : Nat} {f : Nat → Int} (hr : PRow W ao n f) (hlo : ∀ a, ao = some a → base ≤ a.block) : PRow W' ao n f := fun h0 => by
  obtain ⟨b, off, e, hr2⟩ := hr h0
  exact ⟨b, off, e, fun j hj => (World.cell?_of_block (h.block b (hlo _ e) (World.block_lt_of_cell? W _ (hr2 j hj)))).trans (hr2 j hj)⟩
/-- A list of lists of the call's own, all from base on. -/
structure RndS (W : World) (base : Nat) (v : Value) (n : Nat) (A : Nat → Option Addr) (L C : Nat → Nat) (F : Nat → Nat → Int) : Prop where
  ov : OwnV W base v n A L C F
  lo : ∀ i, i < n → ∀ a, A i = some a → base ≤ a.block
theorem RndS.keep {base : Nat} {W W' : World} {v : Value} {n : Nat} {A : Nat → Option Addr} {L C : Nat → Nat} {F : Nat → Nat → Int} (h : RndS W base v n A L C F) (k : Kp base W W') : RndS W' base v n A L C F :=
  ⟨⟨k.owns h.ov.own, h.ov.apart, fun i hi a e => Nat.lt_of_lt_of_le (h.ov.lt i hi a e) k.size, fun i hi => k.prow (h.ov.row i hi) (h.lo i hi)⟩, h.lo⟩
theorem RndS.next {W W' : World} {base : Nat} {v : Value} {n : Nat} {A : Nat → Option Addr} {L C : Nat → Nat} {F : Nat → Nat → Int} {g cap l d bu : Nat} {f : Nat → Int} (h : RndS W base v n A L C F)
    (ho : W'.ownsRow base 25 1 (.slice (some ⟨g, 0, none⟩) (n + 1) cap) (n + 1) (slv n A L C ++ [.slice (some ⟨bu, 0, none⟩) l d])) (hg : W.grownBy W' v.ownBlock) (hat : v.ownBlock = some g ∨ g = W.heap.size)
    (hb : bu < W.heap.size) (hlo : base ≤ bu) (hne : v.ownBlock ≠ some bu) (hr : Row W bu 0 l f) : RndS W' base (.slice (some ⟨g, 0, none⟩) (n + 1) cap) (n + 1) (putO A n (some ⟨bu, 0, none⟩)) (putA L n l) (putA C n d) (putF F n f) :=
  ⟨h.ov.next ho hg hat (fun a e => by cases e; exact hb) (fun a e => by cases e; exact hne) (PRow.of hr), fun i hi a e => by
    unfold putO at e
    by_cases e2 : i = n
    · rw [if_pos e2] at e; cases e; exact hlo
    · rw [if_neg e2] at e; exact h.lo i (by omega) a e⟩

/-- Two cells a part. -/
def pcV (a b : Nat → Value) (j : Nat) : Value := if j % 2 = 0 then a (j / 2) else b (j / 2)
def pcsV (a b : Nat → Value) (n : Nat) : List Value := (List.range (n * 2)).map (pcV a b)
def putV (a : Nat → Value) (k : Nat) (x : Value) (i : Nat) : Value := if i = k then x else a i
theorem pcsV_len (a b : Nat → Value) (n : Nat) : (pcsV a b n).length = n * 2 := by simp [pcsV]
theorem pcsV_at (a b : Nat → Value) (n j : Nat) (h : j < n * 2) : (pcsV a b n)[j]? = some (pcV a b j) := by simp [pcsV, h]
theorem pcsV_congr {a b a' b' : Nat → Value} {n : Nat} (ha : ∀ j, j < n → a j = a' j) (hb : ∀ j, j < n → b j = b' j) : pcsV a b n = pcsV a' b' n := by
  unfold pcsV
  refine List.map_congr_left fun j hj => ?_
  have hj := List.mem_range.1 hj
  unfold pcV
  rw [ha (j / 2) (by omega), hb (j / 2) (by omega)]
theorem pcsV_snoc (a b : Nat → Value) (n : Nat) : pcsV a b n ++ [a n, b n] = pcsV a b (n + 1) := by
  unfold pcsV
  rw [show (n + 1) * 2 = n * 2 + 1 + 1 from by omega, List.range_succ, List.range_succ, List.map_append, List.map_append, List.append_assoc]
  congr 1
  show [a n, b n] = [pcV a b (n * 2)] ++ [pcV a b (n * 2 + 1)]
  unfold pcV
  rw [if_pos (by omega), if_neg (by omega), show n * 2 / 2 = n from by omega, show (n * 2 + 1) / 2 = n from by omega]
  rfl
def raV (m : PM) (p : PQ) (j : Nat) : Value := .slice (m.ra j) (p.rn j) (m.rc j)
def laV (m : PM) (p : PQ) (j : Nat) : Value := .slice (m.la j) (p.ln j) (m.lc j)
/-- Part j lies there. -/
def PartR (W : World) (p : PQ) (m : PM) (j : Nat) : Prop := LRow W (m.ra j) (p.rn j) (m.A j) (p.rl j) (m.C j) (p.R j) ∧ PRow W (m.la j) (p.ln j) (p.L j)
/-- In blocks of S. -/
def PartA (S : Nat → Prop) (p : PQ) (m : PM) (j : Nat) : Prop := (∀ a, m.ra j = some a → S a.block) ∧ (∀ a, m.la j = some a → S a.block) ∧ ∀ i, i < p.rn j → ∀ a, m.A j i = some a → S a.block
theorem PartA.mono {S S' : Nat → Prop} {p : PQ} {m : PM} {j : Nat} (h : PartA S p m j) (hs : ∀ b, S b → S' b) : PartA S' p m j := ⟨fun a e => hs _ (h.1 a e), fun a e => hs _ (h.2.1 a e), fun i hi a e => hs _ (h.2.2 i hi a e)⟩
theorem PartR.keep {W W' : World} {S : Nat → Prop} {p : PQ} {m : PM} {j : Nat} (h : PartR W p m j) (ha : PartA S p m j) (hk : ∀ b, S b → W'.heap[b]? = W.heap[b]?) : PartR W' p m j := by
  have pk : ∀ (ao : Option Addr) (n : Nat) (f : Nat → Int), (∀ a, ao = some a → S a.block) → PRow W ao n f → PRow W' ao n f := fun ao n f hs hr h0 => by
    obtain ⟨b, off, e, hr2⟩ := hr h0
    exact ⟨b, off, e, fun j hj => (World.cell?_of_block (hk b (hs _ e))).trans (hr2 j hj)⟩
  refine ⟨fun h0 => ?_, pk _ _ _ ha.2.1 h.2⟩
  obtain ⟨b, off, e, hr⟩ := h.1 h0
  exact ⟨b, off, e, fun i hi => ⟨(World.cell?_of_block (hk b (ha.1 _ e))).trans (hr i hi).1, pk _ _ _ (ha.2.2 i hi) (hr i hi).2⟩⟩
/-- A list of parts of the call's own, all from base on. -/
structure PartsS (W : World) (base : Nat) (v : Value) (t : Nat) (p : PQ) (m : PM) : Prop where
  own : W.ownsRow base 77 2 v t (pcsV (raV m p) (laV m p) t)
  part : ∀ j, j < t → PartR W p m j
  far : ∀ j, j < t → PartA (fun b => base ≤ b ∧ b < W.heap.size ∧ v.ownBlock ≠ some b) p m j
theorem PartsS.nil (W : World) (base : Nat) (p : PQ) (m : PM) : PartsS W base (.slice none 0 0) 0 p m := ⟨World.ownsRow_nil W base 77 2, fun j hj => absurd hj (by omega), fun j hj => absurd hj (by omega)⟩
theorem PartsS.keep {W W' : World} {base : Nat} {v : Value} {t : Nat} {p : PQ} {m : PM} (h : PartsS W base v t p m) (k : Kp base W W') : PartsS W' base v t p m :=
  ⟨k.owns h.own, fun j hj => (h.part j hj).keep (h.far j hj) (fun b hb => k.block b hb.1 hb.2.1), fun j hj => (h.far j hj).mono fun b hb => ⟨hb.1, Nat.lt_of_lt_of_le hb.2.1 k.size, hb.2.2⟩⟩
def PM.put (m : PM) (t : Nat) (ra la : Option Addr) (rc lc : Nat) (A : Nat → Option Addr) (C : Nat → Nat) : PM :=
  ⟨fun j => if j = t then ra else m.ra j, fun j => if j = t then la else m.la j, fun j => if j = t then rc else m.rc j, fun j => if j = t then lc else m.lc j, fun j => if j = t then A else m.A j, fun j => if j = t then C else m.C j⟩
theorem PM.put_at (m : PM) (t : Nat) (ra la : Option Addr) (rc lc : Nat) (A : Nat → Option Addr) (C : Nat → Nat) : (m.put t ra la rc lc A C).ra t = ra ∧ (m.put t ra la rc lc A C).la t = la ∧ (m.put t ra la rc lc A C).rc t = rc ∧ (m.put t ra la rc lc A C).lc t = lc ∧ (m.put t ra la rc lc A C).A t = A ∧ (m.put t ra la rc lc A C).C t = C :=
  ⟨if_pos rfl, if_pos rfl, if_pos rfl, if_pos rfl, if_pos rfl, if_pos rfl⟩
theorem PM.put_off (m : PM) {t j : Nat} (h : j ≠ t) (ra la : Option Addr) (rc lc : Nat) (A : Nat → Option Addr) (C : Nat → Nat) : (m.put t ra la rc lc A C).ra j = m.ra j ∧ (m.put t ra la rc lc A C).la j = m.la j ∧ (m.put t ra la rc lc A C).rc j = m.rc j ∧ (m.put t ra la rc lc A C).lc j = m.lc j ∧ (m.put t ra la rc lc A C).A j = m.A j ∧ (m.put t ra la rc lc A C).C j = m.C j :=
  ⟨if_neg h, if_neg h, if_neg h, if_neg h, if_neg h, if_neg h⟩
/-- One part more: what append left. -/
theorem PartsS.next {W W' : World} {base : Nat} {v : Value} {t : Nat} {p : PQ} {m : PM} {g cap rc lc : Nat} {ra la : Option Addr} {A : Nat → Option Addr} {C : Nat → Nat} (h : PartsS W base v t p m)
    (ho : W'.ownsRow base 77 2 (.slice (some ⟨g, 0, none⟩) (t + 1) cap) (t + 1) (pcsV (raV m p) (laV m p) t ++ [.slice ra (p.rn t) rc, .slice la (p.ln t) lc])) (hg : W.grownBy W' v.ownBlock) (hat : v.ownBlock = some g ∨ g = W.heap.size)
    (hr : PartR W p (m.put t ra la rc lc A C) t) (hf : PartA (fun b => base ≤ b ∧ b < W.heap.size ∧ v.ownBlock ≠ some b) p (m.put t ra la rc lc A C) t) :
    PartsS W' base (.slice (some ⟨g, 0, none⟩) (t + 1) cap) (t + 1) p (m.put t ra la rc lc A C) := by
  have far : ∀ k, k < W.heap.size → v.ownBlock ≠ some k → some g ≠ some k := fun k hk hk2 e => by
    rcases hat with e1 | e1
    · exact hk2 (e1.trans e)
    · have := Option.some.inj e; omega
  obtain ⟨q1, q2, q3, q4, q5, q6⟩ := m.put_at t ra la rc lc A C
  have old : ∀ j, j < t → PartR W p (m.put t ra la rc lc A C) j ∧ PartA (fun b => base ≤ b ∧ b < W.heap.size ∧ v.ownBlock ≠ some b) p (m.put t ra la rc lc A C) j := fun j hj => by
    obtain ⟨o1, o2, o3, o4, o5, o6⟩ := m.put_off (show j ≠ t by omega) ra la rc lc A C
    unfold PartR PartA
    rw [o1, o2, o5, o6]
    exact ⟨h.part j hj, h.far j hj⟩
  have all : ∀ j, j < t + 1 → PartR W p (m.put t ra la rc lc A C) j ∧ PartA (fun b => base ≤ b ∧ b < W.heap.size ∧ v.ownBlock ≠ some b) p (m.put t ra la rc lc A C) j := fun j hj => by
    by_cases e : j = t
    · subst e; exact ⟨hr, hf⟩
    · exact old j (by omega)
  refine ⟨?_, fun j hj => (all j hj).1.keep (all j hj).2 (fun b hb => hg.block b hb.2.1 (fun e => hb.2.2 e.symm)), fun j hj => (all j hj).2.mono fun b hb => ⟨hb.1, Nat.lt_of_lt_of_le hb.2.1 hg.size, far b hb.2.1 hb.2.2⟩⟩
  rw [← pcsV_snoc]
  have e1 : pcsV (raV (m.put t ra la rc lc A C) p) (laV (m.put t ra la rc lc A C) p) t = pcsV (raV m p) (laV m p) t := pcsV_congr (fun j hj => by
    obtain ⟨o1, o2, o3, o4, o5, o6⟩ := m.put_off (show j ≠ t by omega) ra la rc lc A C
    unfold raV; rw [o1, o3]) (fun j hj => by
    obtain ⟨o1, o2, o3, o4, o5, o6⟩ := m.put_off (show j ≠ t by omega) ra la rc lc A C
    unfold laV; rw [o2, o4])
  rw [e1]
  have e2 : raV (m.put t ra la rc lc A C) p t = .slice ra (p.rn t) rc := by unfold raV; rw [q1, q3]
  have e3 : laV (m.put t ra la rc lc A C) p t = .slice la (p.ln t) lc := by unfold laV; rw [q2, q4]
  rw [e2, e3]
  exact ho
/-- All parts: a proof. -/
theorem PartsS.all {W : World} {base : Nat} {v : Value} {p : PQ} {m : PM} (h : PartsS W base v p.n p m) : ∃ ao cap, v = .slice ao p.n cap ∧ PfRow W ao p m := by
  rcases h.own.2 with ⟨rfl, h0⟩ | ⟨g, cap, cur, rfl, _⟩
  · exact ⟨none, 0, by rw [h0], fun h1 => absurd h1 (by omega)⟩
  · refine ⟨some ⟨g, 0, none⟩, cap, rfl, fun _ => ⟨g, 0, rfl, fun j hj => ?_⟩⟩
    have c0 := h.own.cellAt (j * 2) (by omega)
    have c1 := h.own.cellAt (j * 2 + 1) (by omega)
    rw [pcsV_at _ _ _ _ (by omega), pcV, if_pos (by omega), show j * 2 / 2 = j from by omega] at c0
    rw [pcsV_at _ _ _ _ (by omega), pcV, if_neg (by omega), show (j * 2 + 1) / 2 = j from by omega] at c1
    rw [show 0 + 2 * j = j * 2 from by omega]
    exact ⟨c0, c1, (h.part j hj).1, (h.part j hj).2⟩

end Go.Proofs.YtpkdkgpfjpalnaaDoor

/-
  A contract of the document's own weights, tallyref's Eq: for every point of at most 1000 numbers and every place from 0 on; nothing is written.
-/
namespace Go.Proofs.YtpkdkgpfjpalnaaDoor
open Go.RowKit
set_option linter.unusedVariables false

/-- The weights of the last numbers of a point, from the lowest bit on: k of n. -/
def lowK (g : Nat → K) (n b : Nat) : Nat → K
  | 0 => 1
  | k + 1 => lowK g n b k * (if b / 2 ^ k % 2 = 1 then g (n - 1 - k) else 1 - g (n - 1 - k))
theorem low_all (g : Nat → K) (n k b : Nat) (hk : k ≤ n) : eqK g n b = eqK g (n - k) (b / 2 ^ k) * lowK g n b k := by
  induction k with
  | zero => rw [Nat.pow_zero, Nat.div_one, Nat.sub_zero, lowK]; grind
  | succ k ih =>
    rw [ih (by omega), show n - k = (n - (k + 1)) + 1 from by omega, eqK, lowK, Nat.div_div_eq_div_mul, ← Nat.pow_succ, show n - 1 - k = n - (k + 1) from by omega]
    grind
theorem low_eq (g : Nat → K) (n b : Nat) : lowK g n b n = eqK g n b := by
  rw [low_all g n n b (Nat.le_refl _), Nat.sub_self, eqK]; grind
theorem low_hit (g : Nat → Int) (n b k q : Nat) (z a : Int) (hq : q + k + 1 = n) (hz : z = ofK (lowK (fun j => kk (g j)) n b k)) (ha : g q = a) (h : b / 2 ^ k % 2 = 1) : mulQ z a = ofK (lowK (fun j => kk (g j)) n b (k + 1)) := by
  rw [mulQ_ofK, hz, kk_ofK, lowK, if_pos h, show n - 1 - k = q from by omega, ha]
theorem low_miss (g : Nat → Int) (n b k q : Nat) (z a : Int) (hq : q + k + 1 = n) (hz : z = ofK (lowK (fun j => kk (g j)) n b k)) (ha : g q = a) (h : b / 2 ^ k % 2 ≠ 1) : mulQ z (subQ 1 a) = ofK (lowK (fun j => kk (g j)) n b (k + 1)) := by
  rw [mulQ_ofK, hz, kk_ofK, kk_subQ, kk_one, lowK, if_neg h, show n - 1 - k = q from by omega, ha]
theorem half_pow (b k : Nat) : b / 2 ^ k / 2 = b / 2 ^ (k + 1) := by rw [Nat.div_div_eq_div_mul, ← Nat.pow_succ]

set_option maxHeartbeats 2000000 in
set_option maxRecDepth 100000 in
theorem req_any (b off n cap : Nat) (g : Nat → Int) (at0 : Nat) (w : World) (hn : n ≤ 1000) (hr : Row w b off n g) (hv : Nums g) (hat : at0 ≤ 100000) :
    Calls Tryd.prog 78 #[.slice (some ⟨b, off, none⟩) n cap, .int .i64 (at0 : Int)] w fun e w' => e = .returned (.int .u64 (ofK (eqK (fun j => kk (g j)) n at0))) ∧ w' = w := by
  have HR := hid hr
  have HV := hid hv
  clear hr hv
  go_enter Tryd.func78, Tryd.ntmps78
  go_wp2_with fail
  go_loopg [1, 5, 6] n (fun m p o i wr => ∃ (k c : Nat) (t z : Int), k ≤ n ∧ m = n - k ∧ p = .int .i64 (c : Int) ∧ o = .int .u64 z ∧ i = .int .i64 t ∧ c ≤ 100000 ∧ 0 ≤ z ∧ z ≤ 2305843009213693950 ∧ Hid (t = (n : Int) - 1 - k) ∧ Hid (c = at0 / 2 ^ k) ∧ Hid (z = ofK (lowK (fun j => kk (g j)) n at0 k)) ∧ wr = w)
  case atStart => exact ⟨0, at0, _, 1, by omega, rfl, rfl, rfl, rfl, by omega, by omega, by omega, hid (by omega), hid (by rw [Nat.pow_zero, Nat.div_one]), hid rfl, rfl⟩
  case round =>
    obtain ⟨k, c, t, z, hk, rfl, rfl, rfl, rfl, hc, z0, z1, HT, HC, HZ, hw⟩ := hrel
    obtain rfl := hw.symm
    by_cases hlt : k < n
    · obtain ⟨q, hq⟩ : ∃ q : Nat, q + k + 1 = n := ⟨n - 1 - k, by omega⟩
      have ht : t = (q : Int) := by have := HT.out; omega
      subst ht
      have HQ := hid hq
      have hqn : q < n := by omega
      have q0 : (0 : Int) ≤ (q : Int) := by omega
      have q1 : (q : Int) < (n : Int) := by omega
      clear hq
      have c1 := HR.out q hqn
      obtain ⟨a, ha⟩ : ∃ a, g q = a := ⟨_, rfl⟩
      have ba := HV.out q
      rw [ha] at c1 ba
      obtain ⟨a0, a1⟩ := ba
      have HA := hid ha
      clear ha
      obtain ⟨s0, s1⟩ := subQ_rng 1 a
      by_cases h2 : c % 2 = 1
      · have hb : ((c : Int) % 2 == 1) = true := beq_iff_eq.2 (by omega)
        go_wp2_with (first | (go_at_call 48; refine (rmul_any _ _ _ (by omega) (by omega) (by omega) (by omega)).mono ?_; rintro e w' ⟨rfl, hw⟩; obtain rfl := hw.symm) | (go_at_call 79; refine (rsub_any _ _ _ (by omega) (by omega) (by omega) (by omega)).mono ?_; rintro e w' ⟨rfl, hw⟩; obtain rfl := hw.symm))
        go_roundg (n - (k + 1))
        case measure => go_light; omega
        case rel => exact ⟨k + 1, c / 2, _, _, by omega, rfl, by go_num, rfl, rfl, by omega, (mulQ_rng _ _).1, (mulQ_rng _ _).2, hid (by have := HT.out; omega), hid (by rw [HC.out, half_pow]), hid (low_hit g n at0 k q z a HQ.out HZ.out HA.out (by rw [← HC.out]; exact h2)), rfl⟩
      · have hb : ((c : Int) % 2 == 1) = false := beq_eq_false_iff_ne.2 (by omega)
        go_wp2_with (first | (go_at_call 48; refine (rmul_any _ _ _ (by omega) (by omega) (by omega) (by omega)).mono ?_; rintro e w' ⟨rfl, hw⟩; obtain rfl := hw.symm) | (go_at_call 79; refine (rsub_any _ _ _ (by omega) (by omega) (by omega) (by omega)).mono ?_; rintro e w' ⟨rfl, hw⟩; obtain rfl := hw.symm))
        go_roundg (n - (k + 1))
        case measure => go_light; omega
        case rel => exact ⟨k + 1, c / 2, _, _, by omega, rfl, by go_num, rfl, rfl, by omega, (mulQ_rng _ _).1, (mulQ_rng _ _).2, hid (by have := HT.out; omega), hid (by rw [HC.out, half_pow]), hid (low_miss g n at0 k q z a HQ.out HZ.out HA.out (by rw [← HC.out]; exact h2)), rfl⟩
    · have e : k = n := by omega
      subst e
      have ht : t = -1 := by have := HT.out; omega
      subst ht
      go_wp2_with fail
      go_ret
      exact ⟨ret_u64 (by rw [HZ.out, low_eq]), rfl⟩

set_option maxHeartbeats 1000000 in
theorem req_zero (ao : Option Addr) (cap : Nat) (at0 : Nat) (w : World) (hat : at0 ≤ 100000) :
    Calls Tryd.prog 78 #[.slice ao 0 cap, .int .i64 (at0 : Int)] w fun e w' => e = .returned (.int .u64 1) ∧ w' = w := by
  go_enter Tryd.func78, Tryd.ntmps78
  go_wp2_with fail
  go_loopg [1, 5, 6] 0 (fun m p o i wr => m = 0 ∧ o = .int .u64 1 ∧ i = .int .i64 (-1) ∧ wr = w)
  case atStart => exact ⟨rfl, rfl, rfl, rfl⟩
  case round =>
    obtain ⟨rfl, rfl, rfl, hw⟩ := hrel
    obtain rfl := hw.symm
    go_wp2_with fail
    go_ret
    exact ⟨rfl, rfl⟩

end Go.Proofs.YtpkdkgpfjpalnaaDoor

/-
  A contract of tallyref's Vars: for every list; nothing is written.
-/
namespace Go.Proofs.YtpkdkgpfjpalnaaDoor
open Go.RowKit
set_option linter.unusedVariables false

theorem shl_one {k : Nat} (hk : k ≤ 8) : wrap64 ((2 : Int) ^ k) = ((2 ^ k : Nat) : Int) := by
  have h : 2 ^ k ≤ 256 := Nat.pow_le_pow_right (j := 8) (by omega) hk
  rw [show ((2 : Int) ^ k) = ((2 ^ k : Nat) : Int) from by simp]
  generalize 2 ^ k = M at h
  exact IntWalk.wrap64_in _ (by omega)

set_option maxHeartbeats 1000000 in
theorem rvars_ok (ao : Option Addr) (n N cap : Nat) (w : World) (hn : n ≤ 8) (hN : N = 2 ^ n) :
    Calls Tryd.prog 20 #[.slice ao N cap] w fun e w' => e = .returned (.int .i64 (n : Int)) ∧ w' = w := by
  have HN := hid hN
  clear hN
  go_enter Tryd.func20, Tryd.ntmps20
  go_wp2_with fail
  go_loopg [3] n (fun g i wr => ∃ k : Nat, k ≤ n ∧ g = n - k ∧ i = .int .i64 (k : Int) ∧ wr = w)
  case atStart => exact ⟨0, by omega, rfl, rfl, rfl⟩
  case round =>
    obtain ⟨k, hk, rfl, rfl, hw⟩ := hrel
    obtain rfl := hw.symm
    have hs := shl_one (k := k) (by omega)
    by_cases hlt : k < n
    · have hlt2 : 2 ^ k < N := by rw [HN.out]; exact Nat.pow_lt_pow_right (by omega) hlt
      generalize 2 ^ k = M at hs hlt2
      have hb : ((N : Int) == (M : Int)) = false := beq_eq_false_iff_ne.2 (by omega)
      go_wp2_with fail
      go_roundg (n - (k + 1))
      case measure => go_light; omega
      case rel => exact ⟨k + 1, by omega, rfl, by go_num, rfl⟩
    · have e : k = n := by omega
      subst e
      rw [← HN.out] at hs
      go_wp2_with fail
      go_ret
      exact ⟨rfl, rfl⟩
set_option maxHeartbeats 1000000 in
theorem rvars_bad (ao : Option Addr) (N cap : Nat) (w : World) (h : ∀ n, n ≤ 8 → N ≠ 2 ^ n) :
    Calls Tryd.prog 20 #[.slice ao N cap] w fun e w' => e = .returned (.int .i64 (-1)) ∧ w' = w := by
  have HN := hid h
  clear h
  go_enter Tryd.func20, Tryd.ntmps20
  go_wp2_with fail
  go_loopg [3] 9 (fun g i wr => ∃ k : Nat, k ≤ 9 ∧ g = 9 - k ∧ i = .int .i64 (k : Int) ∧ wr = w)
  case atStart => exact ⟨0, by omega, rfl, rfl, rfl⟩
  case round =>
    obtain ⟨k, hk, rfl, rfl, hw⟩ := hrel
    obtain rfl := hw.symm
    by_cases hlt : k < 9
    · have hs := shl_one (k := k) (by omega)
      have hne := HN.out k (by omega)
      generalize 2 ^ k = M at hs hne
      have hb : ((N : Int) == (M : Int)) = false := beq_eq_false_iff_ne.2 (by omega)
      go_wp2_with fail
      go_roundg (9 - (k + 1))
      case measure => go_light; omega
      case rel => exact ⟨k + 1, by omega, rfl, by go_num, rfl⟩
    · have e : k = 9 := by omega
      subst e
      go_wp2_with fail
      go_ret
      exact ⟨rfl, rfl⟩

end Go.Proofs.YtpkdkgpfjpalnaaDoor

/-
  Contracts of the document's own answers for tables, tallyref's Eval (the sum over all corners) and bits, each for every input; they make new rows and write nothing that was there.
-/
namespace Go.Proofs.YtpkdkgpfjpalnaaDoor
open Go.RowKit
set_option linter.unusedVariables false
attribute [local go_sem ↓] Go.wp_at_zero Go.wp_at_succ

theorem req_p (ao : Option Addr) (n cap : Nat) (g : Nat → Int) (at0 : Nat) (w : World) (hn : n ≤ 1000) (hp : PRow w ao n g) (hv : Nums g) (hat : at0 ≤ 100000) :
    Calls Tryd.prog 78 #[.slice ao n cap, .int .i64 (at0 : Int)] w fun e w' => e = .returned (.int .u64 (ofK (eqK (fun j => kk (g j)) n at0))) ∧ w' = w := by
  by_cases h0 : 0 < n
  · obtain ⟨b, off, rfl, hr⟩ := hp h0
    exact req_any b off n cap g at0 w hn hr hv hat
  · obtain rfl : n = 0 := by omega
    exact req_zero ao cap at0 w hat

theorem ev_step (f : Nat → Int) (g : Nat → K) (n k : Nat) (z a : Int) (hz : z = ofK (sK (fun b => kk (f b) * eqK g n b) k)) (ha : f k = a) : addQ z (mulQ a (ofK (eqK g n k))) = ofK (sK (fun b => kk (f b) * eqK g n b) (k + 1)) := by
  rw [addQ_ofK, hz, kk_ofK, kk_mulQ, kk_ofK, sK, ha]
set_option maxHeartbeats 2000000 in
set_option maxRecDepth 100000 in
theorem reval_any (b off n N cap cap2 : Nat) (ao : Option Addr) (f g : Nat → Int) (w : World) (hn : n ≤ 1000) (hN : N = 2 ^ n) (hN2 : N ≤ 1000) (hr : Row w b off N f) (hv : Nums f) (hp : PRow w ao n g) (hg : Nums g) :
    Calls Tryd.prog 36 #[.slice (some ⟨b, off, none⟩) N cap, .slice ao n cap2] w fun e w' => e = .returned (.int .u64 (ofK (evS (fun j => kk (f j)) (fun j => kk (g j)) n))) ∧ Below w.heap.size w w' := by
  have HE := hid (fun k (hk : k ≤ 1000) w' (h : PRow w' ao n g) => req_p ao n cap2 g k w' hn h hg (by omega))
  have HR := hid hr
  have HV := hid hv
  have HP := hid hp
  have HN := hid hN
  clear hr hv hp hg hN
  go_enter Tryd.func36, Tryd.ntmps36
  go_wp2_with fail
  go_loopg [5, 6] N (fun q o i wr => ∃ (k : Nat) (z : Int), k ≤ N ∧ q = N - k ∧ o = .int .u64 z ∧ i = .int .i64 (k : Int) ∧ 0 ≤ z ∧ z ≤ 2305843009213693950 ∧ Hid (z = ofK (sK (fun b => kk (f b) * eqK (fun j => kk (g j)) n b) k)) ∧ Hid (Row wr b off N f) ∧ Hid (PRow wr ao n g) ∧ Hid (Below w.heap.size w wr))
  case atStart => exact ⟨0, 0, by omega, rfl, rfl, rfl, by omega, by omega, hid rfl, HR, HP, hid (Below.refl _ _)⟩
  case round =>
    clear HR HP
    obtain ⟨k, z, hk, rfl, rfl, rfl, z0, z1, HZ, HR, HP, HB⟩ := hrel
    by_cases hlt : k < N
    · have c1 := HR.out k hlt
      obtain ⟨a, ha⟩ : ∃ a, f k = a := ⟨_, rfl⟩
      have ba := HV.out k
      rw [ha] at c1 ba
      obtain ⟨a0, a1⟩ := ba
      have HA := hid ha
      clear ha
      have he := HE.out k (by omega)
      have hst := fun z h => ev_step f (fun j => kk (g j)) n k z a h HA.out
      obtain ⟨e0, e1⟩ := ofK_rng (eqK (fun j => kk (g j)) n k)
      generalize ofK (eqK (fun j => kk (g j)) n k) = y at he hst e0 e1
      have HE2 := hid he
      have HST := hid (hst z HZ.out)
      clear he hst
      obtain ⟨m0, m1⟩ := mulQ_rng a y
      have k0 : (0 : Int) ≤ (k : Int) := by omega
      have k1 : (k : Int) < (N : Int) := by omega
      go_wp2_with fail
      go_region_with (first | (go_at_call 78; refine (HE2.out _ (by exact HP.out)).mono ?_; rintro e w' ⟨rfl, hw⟩; obtain rfl := hw.symm) | (go_at_call 48; refine (rmul_any _ _ _ (by omega) (by omega) (by omega) (by omega)).mono ?_; rintro e w' ⟨rfl, hw⟩; obtain rfl := hw.symm) | (go_at_call 34; refine (radd_any _ _ _ (by omega) (by omega) (by omega) (by omega)).mono ?_; rintro e w' ⟨rfl, hw⟩; obtain rfl := hw.symm))
      all_goals (go_wp2_with fail)
      all_goals (go_roundg (N - (k + 1)))
      all_goals first | (go_light; omega) | (exact ⟨k + 1, _, by omega, rfl, rfl, by go_num, (addQ_rng _ _).1, (addQ_rng _ _).2, HST, hid HR.out.drew, hid HP.out.drew, hid HB.out.drew⟩)
    · have e : k = N := by omega
      subst e
      go_wp2_with fail
      go_ret
      exact ⟨ret_u64 (by rw [HZ.out, HN.out]; rfl), HB.out⟩

theorem Nums_bitF (b n : Nat) : Nums (bitF b n) := fun j => by unfold bitF; omega

theorem cast_shift (b q : Nat) : ((b / 2 ^ q : Nat) : Int) = (b : Int) / 2 ^ q := by simp
set_option maxHeartbeats 2000000 in
set_option maxRecDepth 100000 in
theorem rbits_any (at0 n : Nat) (w : World) (hn : n ≤ 60) (hat : at0 ≤ 100000) :
    Calls Tryd.prog 33 #[.int .i64 (at0 : Int), .int .i64 (n : Int)] w fun e w' => ∃ v, e = .returned v ∧ Own w' w.heap.size v n (bitF at0 n) ∧ Below w.heap.size w w' ∧ (n = 0 → v = .slice none 0 0) := by
  obtain ⟨i0, hi, hz0, hz1, hz2⟩ := info_parts Tryd.infoO
  have HI := hid (And.intro hi (And.intro hz0 (And.intro hz1 hz2)))
  clear hi hz0 hz1 hz2
  go_enter Tryd.func33, Tryd.ntmps33
  go_wp2_with fail
  go_loopg [5, 6] n (fun m o i wr => ∃ (k : Nat) (t : Int) (v : Value), k ≤ n ∧ m = n - k ∧ o = v ∧ i = .int .i64 t ∧ Hid (t = (n : Int) - 1 - k) ∧ Hid (Own wr w.heap.size v k (bitF at0 n)) ∧ Hid (Below w.heap.size w wr) ∧ Hid (k = 0 → v = .slice none 0 0))
  case atStart => exact ⟨0, _, _, by omega, rfl, rfl, rfl, hid (by omega), hid (Own.nil _ _ _), hid (Below.refl _ _), hid (fun _ => rfl)⟩
  case round =>
    obtain ⟨k, t, v, hk, rfl, rfl, rfl, HT, HO, HB, HK0⟩ := hrel
    by_cases hlt : k < n
    · obtain ⟨q, hq⟩ : ∃ q : Nat, q + k + 1 = n := ⟨n - 1 - k, by omega⟩
      have ht : t = (q : Int) := by have := HT.out; omega
      subst ht
      have hqn : q < n := by omega
      have q0 : (0 : Int) ≤ (q : Int) := by omega
      obtain ⟨s, hs⟩ : ∃ s : Nat, at0 / 2 ^ q = s := ⟨_, rfl⟩
      have hs2 : (at0 : Int) / 2 ^ q = (s : Int) := by rw [← hs]; simp
      have hsl : s ≤ 100000 := by rw [← hs]; exact Nat.le_trans (Nat.div_le_self _ _) hat
      have hy : bitF at0 n k = ((s % 2 : Nat) : Int) := by unfold bitF; rw [show n - 1 - k = q from by omega, hs]
      have HY := hid hy
      have s0 : (0 : Int) ≤ (s : Int) := by omega
      have hwu : IntKind.u64.wrap (((at0 : Int) / 2 ^ q).tmod 2) = (s : Int) % 2 := by
        rw [hs2, IntKind.wrap_u64, Int.tmod_eq_emod_of_nonneg s0]
        omega
      have hmin : min q 64 = q := Nat.min_eq_left (by omega)
      clear hq hy hs hs2
      go_wp2_with (at_builtin; refine wpList_append_lies _ rfl _ _ 25 rfl w.heap.size 45 i0 (.int .u64 0) 1 8 Tryd.underlying25 HI.out.1 HI.out.2.1 HI.out.2.2.1 HI.out.2.2.2 rfl (by decide) _ _ _ rfl (World.ownsRow.alloc HO.out _) ⟨wr.heap.size, 0, none⟩ 1 1 [.int .u64 ((s : Int) % 2)] rfl rfl ?qc2 ?qc3 ?qc4 ?qc5 ?qc6 ?qc7 (wr.heap.size + 1) ?qc8 ?_)
      case qc2 =>
        intro j u hj
        match j, hj with
        | 0, hj => simp at hj; subst hj; simp [Addr.add]
      case qc3 => intro u hu; simp at hu; subst hu; rfl
      case qc4 => omega
      case qc5 => unfold maxLen; omega
      case qc6 => omega
      case qc7 => have := HB.out.size; simp; omega
      case qc8 => simp
      intro g2 c2 w6 hown2 hgrow2 hat2 hlt2
      have HO6 : Hid (Own w6 w.heap.size (.slice (some ⟨g2, 0, none⟩) (k + 1) c2) (k + 1) (bitF at0 n)) := hid (by
        rw [cellsOf_snoc] at hown2
        exact Own.congr hown2 fun j hj => by
          unfold catF
          by_cases e : j < k
          · rw [if_pos e]
          · rw [if_neg e, show j = k from by omega, HY.out]; simp)
      have HB6 : Hid (Below w.heap.size w w6) := hid ((HB.out.alloc HB.out.size _).grown hgrow2 (by have := HB.out.size; simp; omega) (by intro t ht; exact (World.ownsRow.lt HO.out t ht).1))
      clear hown2 hgrow2 hat2 hlt2
      go_wp2_with fail
      go_roundg (n - (k + 1))
      case measure => go_light; omega
      case rel => exact ⟨k + 1, _, _, by omega, rfl, rfl, rfl, hid (by have := HT.out; omega), HO6, HB6, hid (fun h => by omega)⟩
    · have e : k = n := by omega
      subst e
      have ht : t = -1 := by have := HT.out; omega
      subst ht
      go_wp2_with fail
      go_ret
      exact ⟨_, rfl, HO.out, HB.out, HK0.out⟩

end Go.Proofs.YtpkdkgpfjpalnaaDoor

/-
  A contract of tallyref's joined; it makes a new row and writes nothing that was there.
-/
namespace Go.Proofs.YtpkdkgpfjpalnaaDoor
open Go.RowKit
set_option linter.unusedVariables false
attribute [local go_sem ↓] Go.wp_at_zero Go.wp_at_succ

def catN (nv : Nat → Nat) : Nat → Nat
  | 0 => 0
  | k + 1 => catN nv k + nv k
def catFs (nv : Nat → Nat) (fv : Nat → Nat → Int) : Nat → Nat → Int
  | 0 => fun _ => 0
  | k + 1 => catF (catN nv k) (catFs nv fv k) (fv k)
theorem catN_le (nv : Nat → Nat) (m k : Nat) (hk : k ≤ m) (h : ∀ k, k < m → nv k ≤ 1000) : catN nv k ≤ 1000 * k := by
  induction k with
  | zero => simp [catN]
  | succ k ih => rw [catN]; have := ih (by omega); have := h k (by omega); omega

set_option maxHeartbeats 2000000 in
set_option maxRecDepth 100000 in
theorem joined_any (B o m cap : Nat) (av : Nat → Option Addr) (nv cv : Nat → Nat) (fv : Nat → Nat → Int) (w : World) (hm : m ≤ 10) (hl : ∀ k, k < m → w.cell? ⟨B, o + k, none⟩ = some (.slice (av k) (nv k) (cv k))) (hB : B < w.heap.size)
    (hp : ∀ k, k < m → PRow w (av k) (nv k) (fv k)) (hn : ∀ k, k < m → nv k ≤ 1000) :
    Calls Tryd.prog 32 #[.slice (some ⟨B, o, none⟩) m cap] w fun e w' => ∃ v, e = .returned v ∧ Own w' w.heap.size v (catN nv m) (catFs nv fv m) ∧ Below w.heap.size w w' := by
  obtain ⟨i0, hi, hz0, hz1, hz2⟩ := info_parts Tryd.infoO
  have HI := hid (And.intro hi (And.intro hz0 (And.intro hz1 hz2)))
  have HL := hid hl
  have HP := hid hp
  have HN := hid hn
  clear hi hz0 hz1 hz2 hl hp hn
  go_enter Tryd.func32, Tryd.ntmps32
  go_wp2_with fail
  go_loopg [3, 4] m (fun q x i wr => ∃ (k : Nat) (v : Value), k ≤ m ∧ q = m - k ∧ x = v ∧ i = .int .i64 (k : Int) ∧ Hid (Own wr w.heap.size v (catN nv k) (catFs nv fv k)) ∧ Hid (Below w.heap.size w wr))
  case atStart => exact ⟨0, _, by omega, rfl, rfl, rfl, hid (Own.nil _ _ _), hid (Below.refl _ _)⟩
  case round =>
    obtain ⟨k, v, hk, rfl, rfl, rfl, HO, HB⟩ := hrel
    by_cases hlt : k < m
    · have c1 := (HB.out.cell hB).trans (HL.out k hlt)
      have k0 : (0 : Int) ≤ (k : Int) := by omega
      have k1 : (k : Int) < (m : Int) := by omega
      by_cases hz : nv k = 0
      · rw [hz] at c1
        go_wp2_with (at_builtin; refine wpList_append_empty _ rfl _ _ 25 rfl w.heap.size 45 i0 1 Tryd.underlying25 HI.out.1 _ _ _ rfl HO.out _ _ rfl ?_)
        go_roundg (m - (k + 1))
        case measure => go_light; omega
        case rel =>
          refine ⟨k + 1, _, by omega, rfl, rfl, by go_num, hid ?_, HB⟩
          have h := HO.out
          rw [catN, hz, Nat.add_zero]
          exact h.congr fun j hj => by rw [catFs, catF, if_pos hj]
      · obtain ⟨b2, off2, e1, hr⟩ := HP.out k hlt (by omega)
        rw [e1] at c1
        have hn1 := HN.out k hlt
        have hcn := catN_le nv m k hk HN.out
        have HR := hid (hr.kept HB.out (hr.lt (by omega)))
        clear hr e1
        obtain ⟨n1, hn2⟩ : ∃ n1, nv k = n1 := ⟨_, rfl⟩
        rw [hn2] at c1 hn1 hz HR
        have HN2 := hid hn2
        clear hn2
        go_wp2_with (at_builtin; refine wpList_append_lies _ rfl _ _ 25 rfl w.heap.size 45 i0 (.int .u64 0) 1 8 Tryd.underlying25 HI.out.1 HI.out.2.1 HI.out.2.2.1 HI.out.2.2.2 rfl (by decide) _ _ _ rfl HO.out ⟨b2, off2, none⟩ n1 (cv k) (cellsOf n1 (fv k)) rfl ?qc1 ?qc2 ?qc3 ?qc4 ?qc5 ?qc6 ?qc7 wr.heap.size ?qc8 ?_)
        case qc1 => rw [cellsOf_len]; omega
        case qc2 => exact row_cells HR.out
        case qc3 => exact cellsOf_one _ _
        case qc4 => omega
        case qc5 => unfold maxLen; omega
        case qc6 => omega
        case qc7 => exact HB.out.size
        case qc8 => rfl
        intro g2 c2 w6 hown2 hgrow2 hat2 hlt2
        have HO6 : Hid (Own w6 w.heap.size (.slice (some ⟨g2, 0, none⟩) (catN nv k + n1) c2) (catN nv k + n1) (catF (catN nv k) (catFs nv fv k) (fv k))) := hid (by
          rw [cellsOf_cat] at hown2
          exact hown2)
        have HB6 : Hid (Below w.heap.size w w6) := hid (HB.out.grown hgrow2 HB.out.size (by intro t ht; exact (World.ownsRow.lt HO.out t ht).1))
        clear hown2 hgrow2 hat2 hlt2
        go_wp2_with fail
        go_roundg (m - (k + 1))
        case measure => go_light; omega
        case rel => exact ⟨k + 1, _, by omega, rfl, rfl, by go_num, hid (by rw [catN, HN2.out]; exact HO6.out), HB6⟩
    · have e : k = m := by omega
      subst e
      go_wp2_with fail
      go_ret
      exact ⟨_, rfl, HO.out, HB.out⟩

theorem joined_two (B cap : Nat) (a0 a1 : Option Addr) (n0 c0 n1 c1 : Nat) (f0 f1 : Nat → Int) (w : World) (h0 : w.cell? ⟨B, 0, none⟩ = some (.slice a0 n0 c0)) (h1 : w.cell? ⟨B, 1, none⟩ = some (.slice a1 n1 c1))
    (p0 : PRow w a0 n0 f0) (p1 : PRow w a1 n1 f1) (l0 : n0 ≤ 1000) (l1 : n1 ≤ 1000) :
    Calls Tryd.prog 32 #[.slice (some ⟨B, 0, none⟩) 2 cap] w fun e w' => ∃ v, e = .returned v ∧ Own w' w.heap.size v (n0 + n1) (catF n0 f0 f1) ∧ Below w.heap.size w w' := by
  have h := joined_any B 0 2 cap (fun k => if k = 0 then a0 else a1) (fun k => if k = 0 then n0 else n1) (fun k => if k = 0 then c0 else c1) (fun k => if k = 0 then f0 else f1) w (by omega)
    (fun k hk => by
      match k, hk with
      | 0, _ => exact h0
      | 1, _ => exact h1)
    (World.block_lt_of_cell? w _ h0)
    (fun k hk => by
      match k, hk with
      | 0, _ => exact p0
      | 1, _ => exact p1)
    (fun k hk => by
      match k, hk with
      | 0, _ => exact l0
      | 1, _ => exact l1)
  refine h.mono ?_
  rintro e w' ⟨v, rfl, ho, hb⟩
  refine ⟨v, rfl, ?_, hb⟩
  have e1 : catN (fun k => if k = 0 then n0 else n1) 2 = n0 + n1 := by simp [catN]
  rw [e1] at ho
  refine ho.congr fun j hj => ?_
  simp only [catFs, catN, if_pos, Nat.zero_add, catF]
  by_cases hj2 : j < n0
  · rw [if_pos hj2, if_neg (by omega), if_pos hj2]; simp
  · rw [if_neg hj2, if_neg hj2]; simp

end Go.Proofs.YtpkdkgpfjpalnaaDoor

/-
  Plain, for tallyref's Proof: a round's value as the sum over all corners of what is left; and joined of three lists.
-/
namespace Go.Proofs.YtpkdkgpfjpalnaaDoor
open Go.RowKit
set_option linter.unusedVariables false

/-- A corner's point: the draws so far, the value, a corner of what is left. -/
def xyF (d : Nat → Int) (r v m b : Nat) : Nat → Int := catF r d (catF 1 (fun _ => (v : Int)) (bitF b m))
theorem kk_xyF (d : Nat → Int) (r v m b q : Nat) (hq : q < r + 1 + m) : kk (xyF d r v m b q) = cornK (updK (fun j => kk (d j)) r (kn v)) (r + 1) m b q := by
  unfold xyF catF cornK
  by_cases h : q < r
  · rw [if_pos h, if_neg (by omega)]
    unfold updK
    rw [if_neg (by omega)]
  · rw [if_neg h]
    by_cases h2 : q = r
    · subst h2
      rw [if_pos (by omega), if_neg (by omega)]
      unfold updK
      rw [if_pos rfl]; rfl
    · rw [if_neg (by omega), if_pos (by omega), kk_bitF, show q - r - 1 = q - (r + 1) from by omega]
theorem Nums_xyF {d : Nat → Int} (hd : Nums d) (r v m b : Nat) (hv : v ≤ 1000) : Nums (xyF d r v m b) := fun j => by
  unfold xyF catF
  by_cases h : j < r
  · rw [if_pos h]; exact hd j
  · rw [if_neg h]
    by_cases h2 : j - r < 1
    · rw [if_pos h2]
      show 0 ≤ (v : Int) ∧ (v : Int) ≤ 18446744073709551615
      omega
    · rw [if_neg h2]; exact Nums_bitF b m _
/-- What a corner adds. -/
def cornT (gs : List GQ) (lk k : Nat) (V z d : Nat → Int) (r v m b : Nat) : K := layF (gM gs) (gA gs) (gB gs) lk k (fun j => kk (V j)) (pK z) (fun q => kk (xyF d r v m b q))
theorem corn_step (gs : List GQ) (lk k : Nat) (V z d : Nat → Int) (r v m b : Nat) :
    wstQ gs lk k z (xyF d r v m b) (fun q => xyF d r v m b (k + q)) (ofK (evS (fun j => kk (V j)) (fun j => kk (xyF d r v m b j)) k)) (ofK (evS (fun j => kk (V j)) (fun j => kk (xyF d r v m b (k + j))) k)) = ofK (cornT gs lk k V z d r v m b) := by
  unfold wstQ cornT layF
  rw [kk_ofK, kk_ofK]
  rfl
theorem corn_next (f : Nat → K) (B : Nat) (x : Int) (hx : x = ofK (f B)) (z : Int) (hz : z = ofK (sK f B)) : addQ z x = ofK (sK f (B + 1)) := by
  rw [hx, hz, addQ_ofK, kk_ofK, kk_ofK]; rfl
theorem corn_sum (gs : List GQ) (lk k : Nat) (V z d : Nat → Int) (r v m : Nat) (hm : r + 1 + m = k + k) : ofK (sK (cornT gs lk k V z d r v m) (2 ^ m)) = rdQ gs lk k V z d r v := by
  unfold rdQ rndK
  rw [show k + k - r - 1 = m from by omega, cube_sum]
  congr 1
  refine sK_congr (2 ^ m) fun b hb => ?_
  unfold cornT
  exact layF_congr _ _ _ _ _ _ (fun _ _ => rfl) (fun q hq => kk_xyF d r v m b q (by omega))
/-- joined, of three lists. -/
theorem joined_three (B cap : Nat) (a0 a1 a2 : Option Addr) (n0 c0 n1 c1 n2 c2 : Nat) (f0 f1 f2 : Nat → Int) (w : World) (h0 : w.cell? ⟨B, 0, none⟩ = some (.slice a0 n0 c0)) (h1 : w.cell? ⟨B, 1, none⟩ = some (.slice a1 n1 c1)) (h2 : w.cell? ⟨B, 2, none⟩ = some (.slice a2 n2 c2))
    (p0 : PRow w a0 n0 f0) (p1 : PRow w a1 n1 f1) (p2 : PRow w a2 n2 f2) (l0 : n0 ≤ 1000) (l1 : n1 ≤ 1000) (l2 : n2 ≤ 1000) :
    Calls Tryd.prog 32 #[.slice (some ⟨B, 0, none⟩) 3 cap] w fun e w' => ∃ v, e = .returned v ∧ Own w' w.heap.size v (n0 + n1 + n2) (catF n0 f0 (catF n1 f1 f2)) ∧ Below w.heap.size w w' := by
  have h := joined_any B 0 3 cap (fun k => if k = 0 then a0 else if k = 1 then a1 else a2) (fun k => if k = 0 then n0 else if k = 1 then n1 else n2) (fun k => if k = 0 then c0 else if k = 1 then c1 else c2) (fun k => if k = 0 then f0 else if k = 1 then f1 else f2) w (by omega)
    (fun k hk => by
      obtain rfl | rfl | rfl : k = 0 ∨ k = 1 ∨ k = 2 := by omega
      · exact h0
      · exact h1
      · exact h2) (World.block_lt_of_cell? w _ h0)
    (fun k hk => by
      obtain rfl | rfl | rfl : k = 0 ∨ k = 1 ∨ k = 2 := by omega
      · exact p0
      · exact p1
      · exact p2)
    (fun k hk => by
      obtain rfl | rfl | rfl : k = 0 ∨ k = 1 ∨ k = 2 := by omega
      · exact l0
      · exact l1
      · exact l2)
  refine h.mono ?_
  rintro e w' ⟨v, he, ho, hb⟩
  refine ⟨v, he, ?_, hb⟩
  have e1 : catN (fun k => if k = 0 then n0 else if k = 1 then n1 else n2) 3 = n0 + n1 + n2 := by
    show 0 + n0 + n1 + n2 = _
    omega
  rw [e1] at ho
  refine ho.congr fun j hj => ?_
  show catF (0 + n0 + n1) (catF (0 + n0) (catF 0 (fun _ => 0) f0) f1) f2 j = _
  unfold catF
  by_cases h1 : j < n0
  · rw [if_pos (by omega), if_pos (by omega), if_neg (by omega), if_pos h1, Nat.sub_zero]
  · by_cases h2 : j < n0 + n1
    · rw [if_pos (by omega), if_neg (by omega), if_neg h1, if_pos (by omega), show j - (0 + n0) = j - n0 from by omega]
    · rw [if_neg (by omega), if_neg h1, if_neg (by omega), show j - (0 + n0 + n1) = j - n0 - n1 from by omega]

end Go.Proofs.YtpkdkgpfjpalnaaDoor

/-
  A contract of tallyref's In, for every input; nothing is written.
-/
namespace Go.Proofs.YtpkdkgpfjpalnaaDoor
open Go.RowKit
set_option linter.unusedVariables false

set_option maxHeartbeats 400000 in
theorem rin_any (n a b : Int) (w : World) : Calls Tryd.prog 25 #[.int .i64 n, .int .i64 a, .int .i64 b] w fun e w' => e = .returned (.bool (decide (a ≤ n) && decide (n ≤ b))) ∧ w' = w := by
  by_cases h1 : a ≤ n
  · by_cases h2 : n ≤ b
    · go_enter Tryd.func25, Tryd.ntmps25
      go_wp2
      go_ret
      exact ⟨by simp [h1, h2], rfl⟩
    · go_enter Tryd.func25, Tryd.ntmps25
      go_wp2
      go_ret
      exact ⟨by simp [h2], rfl⟩
  · go_enter Tryd.func25, Tryd.ntmps25
    go_wp2
    go_ret
    exact ⟨by simp; omega, rfl⟩

end Go.Proofs.YtpkdkgpfjpalnaaDoor

/-
  Contracts of tallyref's Below and Circuit, for every circuit; they make new blocks and write nothing that was there.
-/
namespace Go.Proofs.YtpkdkgpfjpalnaaDoor
open Go.RowKit
set_option linter.unusedVariables false
attribute [local go_sem ↓] Go.wp_at_zero Go.wp_at_succ

set_option maxHeartbeats 1000000 in
theorem rbelow_zero (g : Int) (ao : Option Addr) (n cap : Nat) (w : World) :
    Calls Tryd.prog 17 #[.agg #[.int .i64 g, .slice ao n cap], .int .i64 0] w fun e w' => e = .returned (.int .i64 g) ∧ Below w.heap.size w w' := by
  go_enter Tryd.func17, Tryd.ntmps17
  go_wp2_with fail
  go_ret
  exact ⟨rfl, (Below.refl _ w).alloc (Nat.le_refl _) _⟩
set_option maxHeartbeats 1000000 in
theorem rbelow_at (g : Int) (b off n cap i : Nat) (x : Int) (w : World) (hi : i < n) (hn : n ≤ 4) (hc : w.cell? ⟨b, off + 2 * i, none⟩ = some (.int .i64 x)) :
    Calls Tryd.prog 17 #[.agg #[.int .i64 g, .slice (some ⟨b, off, none⟩) n cap], .int .i64 ((i : Int) + 1)] w fun e w' => e = .returned (.int .i64 x) ∧ Below w.heap.size w w' := by
  have hb : b < w.heap.size := World.block_lt_of_cell? w _ hc
  have hc2 : ∀ o, (w.alloc o).cell? ⟨b, off + i * 2, none⟩ = some (.int .i64 x) := fun o => by rw [Nat.mul_comm i 2, World.cell?_alloc_old _ _ _ (Nat.ne_of_lt hb)]; exact hc
  have k0 : ¬ ((i : Int) + 1 = 0) := by omega
  have k1 : (((i : Int) + 1) == 0) = false := beq_eq_false_iff_ne.2 k0
  have k2 : (0 : Int) ≤ (i : Int) := by omega
  have k3 : (i : Int) < (n : Int) := by omega
  clear hc
  go_enter Tryd.func17, Tryd.ntmps17
  go_wp2_with fail
  go_ret
  exact ⟨rfl, (Below.refl _ w).alloc (Nat.le_refl _) _⟩

end Go.Proofs.YtpkdkgpfjpalnaaDoor

/-
  A contract of tallyref's Circuit, for every circuit; it makes new blocks and writes nothing that was there.
-/
namespace Go.Proofs.YtpkdkgpfjpalnaaDoor
open Go.RowKit
set_option linter.unusedVariables false
attribute [local go_sem ↓] Go.wp_at_zero Go.wp_at_succ

set_option maxHeartbeats 1000000 in
theorem rcirc_log (g : Int) (ao : Option Addr) (n cap : Nat) (w : World) (h : ¬ (0 ≤ g ∧ g ≤ 4)) :
    Calls Tryd.prog 6 #[.agg #[.int .i64 g, .slice ao n cap]] w fun e w' => e = .returned (.int .i64 1) ∧ Below w.heap.size w w' := by
  have hI : (decide ((0 : Int) ≤ g) && decide (g ≤ 4)) = false := by simp; omega
  have HI := hid (fun w => rin_any g 0 4 w)
  rw [hI] at HI
  clear hI h
  go_enter Tryd.func6, Tryd.ntmps6
  go_wp2_with (go_at_call 25; refine (HI.out _).mono ?_; rintro e w' ⟨rfl, hw⟩; obtain rfl := hw.symm)
  go_ret
  exact ⟨rfl, (Below.refl _ w).alloc (Nat.le_refl _) _⟩
set_option maxHeartbeats 1000000 in
theorem rcirc_none (g : Int) (ao : Option Addr) (cap : Nat) (w : World) (h0 : 0 ≤ g) (h4 : g ≤ 4) :
    Calls Tryd.prog 6 #[.agg #[.int .i64 g, .slice ao 0 cap]] w fun e w' => e = .returned (.int .i64 1) ∧ Below w.heap.size w w' := by
  have hI : (decide ((0 : Int) ≤ g) && decide (g ≤ 4)) = true := by simp; omega
  have HI := hid (fun w => rin_any g 0 4 w)
  rw [hI] at HI
  clear hI
  go_enter Tryd.func6, Tryd.ntmps6
  go_wp2_with (go_at_call 25; refine (HI.out _).mono ?_; rintro e w' ⟨rfl, hw⟩; obtain rfl := hw.symm)
  go_ret
  exact ⟨rfl, (Below.refl _ w).alloc (Nat.le_refl _) _⟩
set_option maxHeartbeats 1000000 in
theorem rcirc_large (g : Int) (ao : Option Addr) (n cap : Nat) (w : World) (h0 : 0 ≤ g) (h4 : g ≤ 4) (hn : 4 < n) :
    Calls Tryd.prog 6 #[.agg #[.int .i64 g, .slice ao n cap]] w fun e w' => e = .returned (.int .i64 2) ∧ Below w.heap.size w w' := by
  have hI : (decide ((0 : Int) ≤ g) && decide (g ≤ 4)) = true := by simp; omega
  have HI := hid (fun w => rin_any g 0 4 w)
  rw [hI] at HI
  have n1 : ((n : Int) == 0) = false := beq_eq_false_iff_ne.2 (by omega)
  have n2 : (4 : Int) < (n : Int) := by omega
  clear hI
  go_enter Tryd.func6, Tryd.ntmps6
  go_wp2_with (go_at_call 25; refine (HI.out _).mono ?_; rintro e w' ⟨rfl, hw⟩; obtain rfl := hw.symm)
  go_ret
  exact ⟨rfl, (Below.refl _ w).alloc (Nat.le_refl _) _⟩

theorem rbelow_any (c : CQ) (g : Int) (b off n cap i : Nat) (A : Nat → Option Addr) (C : Nat → Nat) (w : World) (hg : c.log = g) (hn : c.layers.length = n) (n4 : n ≤ 4) (hi : i ≤ n) (hr : CRow w (some ⟨b, off, none⟩) c.layers A C) :
    Calls Tryd.prog 17 #[.agg #[.int .i64 g, .slice (some ⟨b, off, none⟩) n cap], .int .i64 (i : Int)] w fun e w' => e = .returned (.int .i64 (belowQ c i)) ∧ Below w.heap.size w w' := by
  cases i with
  | zero => rw [show belowQ c 0 = g from hg]; exact rbelow_zero g _ n cap w
  | succ i =>
    have hlt : i < c.layers.length := by omega
    obtain ⟨l, hl⟩ : ∃ l, c.layers[i]? = some l := ⟨c.layers[i], by simp [hlt]⟩
    obtain ⟨b', off', e, hc⟩ := hr (by intro e; rw [e] at hlt; simp at hlt)
    cases e
    rw [show belowQ c (i + 1) = l.log from by rw [belowQ, hl]; rfl, show ((i + 1 : Nat) : Int) = (i : Int) + 1 from by omega]
    exact rbelow_at g b off n cap i l.log w (by omega) n4 (hc i l hl).1

set_option maxHeartbeats 1000000 in
set_option maxRecDepth 100000 in
theorem rcirc_main (c : CQ) (g : Int) (b off n cap : Nat) (A : Nat → Option Addr) (C : Nat → Nat) (w : World) (hg : c.log = g) (hn : c.layers.length = n) (h0 : 0 ≤ g) (h4 : g ≤ 4) (n1 : 1 ≤ n) (n4 : n ≤ 4) (hr : CRow w (some ⟨b, off, none⟩) c.layers A C) :
    Calls Tryd.prog 6 #[.agg #[.int .i64 g, .slice (some ⟨b, off, none⟩) n cap]] w fun e w' => ∃ x, e = .returned (.int .i64 x) ∧ checkE c x ∧ Below w.heap.size w w' := by
  have hI : (decide ((0 : Int) ≤ g) && decide (g ≤ 4)) = true := by simp; omega
  have HI := hid (fun w => rin_any g 0 4 w)
  rw [hI] at HI
  have m1 : ((n : Int) == 0) = false := beq_eq_false_iff_ne.2 (by omega)
  have m2 : decide ((4 : Int) < (n : Int)) = false := by simp; omega
  have HR := hid hr
  have HG := hid hg
  have HN := hid hn
  clear hI hr hg hn
  go_enter Tryd.func6, Tryd.ntmps6
  go_wp2_with (go_at_call 25; refine (HI.out _).mono ?_; rintro e w' ⟨rfl, hw⟩; obtain rfl := hw.symm)
  obtain ⟨B, hB⟩ : ∃ B, w.heap.size = B := ⟨_, rfl⟩
  have HW0 := hid ((Below.refl B w).alloc (Nat.le_of_eq hB.symm) (.cells #[.int .i64 g, .slice (some ⟨b, off, none⟩) n cap] 24))
  have HR0 : Hid (CRow (w.alloc (.cells #[.int .i64 g, .slice (some ⟨b, off, none⟩) n cap] 24)) (some ⟨b, off, none⟩) c.layers A C) := hid (HR.out.kept (by rw [hB]; exact HW0.out))
  have HX0 : Hid (Box2 (w.alloc (.cells #[.int .i64 g, .slice (some ⟨b, off, none⟩) n cap] 24)) B (.int .i64 g) (.slice (some ⟨b, off, none⟩) n cap)) := hid (by rw [← hB]; exact Box2.new w _ _ _)
  rw [hB]
  generalize w.alloc (.cells #[.int .i64 g, .slice (some ⟨b, off, none⟩) n cap] 24) = W0 at HW0 HR0 HX0 ⊢
  have HBE := hid hB
  clear HR hB HI
  go_loopg [3] n (fun q i wr => ∃ k : Nat, k ≤ n ∧ q = n - k ∧ i = .int .i64 (k : Int) ∧ Hid (Below B w wr) ∧ Hid (CRow wr (some ⟨b, off, none⟩) c.layers A C) ∧ Hid (Box2 wr B (.int .i64 g) (.slice (some ⟨b, off, none⟩) n cap)) ∧ Hid (∀ j, j < k → ∀ x, c.layers[j]? = some x → x.right (belowQ c j)))
  case atStart => exact ⟨0, by omega, rfl, rfl, HW0, HR0, HX0, hid (fun j hj => absurd hj (by omega))⟩
  case round =>
    clear HW0 HR0 HX0
    obtain ⟨k, hk, rfl, rfl, HB, HR, HX, HD⟩ := hrel
    obtain ⟨x0, x1, xl⟩ := HX.out
    by_cases hlt : k < n
    · obtain ⟨l, hl⟩ : ∃ l, c.layers[k]? = some l := ⟨c.layers[k]'(by rw [HN.out]; exact hlt), by simp⟩
      obtain ⟨b', off', eb, hc⟩ := HR.out (by intro e; have := HN.out; rw [e] at this; simp at this; omega)
      cases eb
      obtain ⟨y0, y1, y2, y3⟩ := hc k l hl
      have yb : b < wr.heap.size := World.block_lt_of_cell? wr _ y0
      rw [Nat.mul_comm 2 k] at y0 y1
      clear hc
      have HY2 := hid y2
      have HL := hid hl
      clear y2 hl y3
      obtain ⟨lg, hlg⟩ : ∃ x, l.log = x := ⟨_, rfl⟩
      obtain ⟨m, hm⟩ : ∃ x, l.gates.length = x := ⟨_, rfl⟩
      obtain ⟨ga, hga⟩ : ∃ x, A k = x := ⟨_, rfl⟩
      obtain ⟨gc, hgc⟩ : ∃ x, C k = x := ⟨_, rfl⟩
      rw [hlg] at y0
      rw [hm, hga, hgc] at y1
      rw [hga] at HY2
      have HLG := hid hlg
      have HM := hid hm
      clear hlg hm hga hgc
      have k0 : (0 : Int) ≤ (k : Int) := by omega
      have k1 : (k : Int) < (n : Int) := by omega
      have hbel : Hid (∃ bk : Nat, belowQ c k = (bk : Int) ∧ bk ≤ 4) := hid (below_rng HG.out h0 h4 HD.out)
      by_cases hin : 0 ≤ lg ∧ lg ≤ 4
      · obtain ⟨lk, rfl⟩ : ∃ lk : Nat, lg = (lk : Int) := ⟨lg.toNat, by omega⟩
        have hI : (decide ((0 : Int) ≤ (lk : Int)) && decide ((lk : Int) ≤ 4)) = true := by simp; omega
        have HI := hid (fun w => rin_any (lk : Int) 0 4 w)
        rw [hI] at HI
        clear hI
        have lk4 : lk ≤ 4 := by omega
        obtain ⟨N, hN⟩ : ∃ N, N = 2 ^ lk := ⟨_, rfl⟩
        have sh : wrap64 ((2 : Int) ^ lk) = (N : Int) := by rw [hN]; exact shl_pow (by omega)
        have sh2 : IntKind.i64.wrap ((2 : Int) ^ lk) = (N : Int) := by rw [IntWalk.i64_left]; exact sh
        have HNN := hid hN
        clear hN
        by_cases hmN : m = N
        · subst hmN
          go_wp2_with (go_at_call 25; refine (HI.out _).mono ?_; rintro e w' ⟨rfl, hw⟩; obtain rfl := hw.symm)
          go_quiet (fail)
          go_wp2_with fail
          obtain ⟨bk, hbk, bk4⟩ := hbel.out
          have HL0 := hid (Box2.new wr (.int .i64 (lk : Int)) (.slice ga m gc) 50)
          have hal := (Below.refl wr.heap.size wr).alloc (Nat.le_refl _) (.cells #[.int .i64 (lk : Int), .slice ga m gc] 50)
          have HB0 := hid (HB.out.alloc (Nat.le_of_lt xl) (.cells #[.int .i64 (lk : Int), .slice ga m gc] 50))
          have HX0 := hid (HX.out.kept hal)
          have HR0 := hid (HR.out.kept hal)
          have HY0 := hid (HY2.out.kept hal)
          clear x0 x1 y0 y1 HX HR HY2 hal HB yb HI
          obtain ⟨L, hL⟩ : ∃ L, wr.heap.size = L := ⟨_, rfl⟩
          rw [hL] at HL0 xl ⊢
          clear hL
          generalize wr.alloc (.cells #[.int .i64 (lk : Int), .slice ga m gc] 50) = W1 at HL0 HB0 HX0 HR0 HY0 ⊢
          refine (rbelow_any c g b off n cap k A C _ HG.out HN.out n4 (by omega) (by exact HR0.out)).mono ?_
          rintro e w1 ⟨rfl, hb1⟩
          have hb2 : Below W1.heap.size W1 w1 := ⟨hb1.os, hb1.tape, hb1.output, hb1.size, hb1.block⟩
          have HB1 := hid (HB0.out.trans (hb2.mono (Nat.le_trans (Nat.le_of_lt xl) (Nat.le_of_lt HL0.out.lt))))
          have HX1 := hid (HX0.out.kept hb2)
          have HR1 := hid (HR0.out.kept hb2)
          have HY1 := hid (HY0.out.kept hb2)
          obtain ⟨z0, z1, zl⟩ := HL0.out.kept hb2
          clear hb1 hb2 HL0 HX0 HR0 HY0 HB0 hbel
          rw [hbk]
          obtain ⟨M, hM⟩ : ∃ M, M = 2 ^ bk := ⟨_, rfl⟩
          have shM : wrap64 ((2 : Int) ^ bk) = (M : Int) := by rw [hM]; exact shl_pow (by omega)
          have M1 : 1 ≤ M := by rw [hM]; exact Nat.one_le_two_pow
          have M2 : M ≤ 16 := by rw [hM]; exact Nat.le_trans (Nat.pow_le_pow_right (by omega) bk4) (by decide)
          have HM2 : Hid ((M : Int) = ((2 ^ (belowQ c k).toNat : Nat) : Int)) := hid (by rw [hM, hbk]; simp)
          clear hM hbk sh sh2
          have m16 : m ≤ 16 := by rw [HNN.out]; exact Nat.le_trans (Nat.pow_le_pow_right (by omega) lk4) (by decide)
          go_wp2_with fail
          clear shM
          go_loopg [6] m (fun q i wx => ∃ t : Nat, t ≤ m ∧ q = m - t ∧ i = .int .i64 (t : Int) ∧ wx = w1 ∧ Hid (∀ j, j < t → ∀ x, l.gates[j]? = some x → gateOk (M : Int) x))
          case atStart => exact ⟨0, by omega, rfl, rfl, rfl, hid (fun j hj => absurd hj (by omega))⟩
          case round =>
            obtain ⟨t, ht, rfl, rfl, hwx, HT⟩ := hrel
            subst hwx
            by_cases htl : t < m
            · obtain ⟨x, hx⟩ : ∃ x, l.gates[t]? = some x := ⟨l.gates[t]'(by rw [HM.out]; exact htl), by simp⟩
              obtain ⟨gb, go, rfl, hgc⟩ := HY1.out (by intro e; have := HM.out; rw [e] at this; simp at this; omega)
              obtain ⟨_, q1, q2⟩ := hgc t x hx
              rw [Nat.mul_comm 3 t] at q1 q2
              obtain ⟨xa, hxa⟩ : ∃ v, x.a = v := ⟨_, rfl⟩
              obtain ⟨xb, hxb⟩ : ∃ v, x.b = v := ⟨_, rfl⟩
              rw [hxa] at q1
              rw [hxb] at q2
              have HXX := hid (And.intro hx (And.intro hxa hxb))
              clear hgc hx hxa hxb
              have t0 : (0 : Int) ≤ (t : Int) := by omega
              have t1 : (t : Int) < (m : Int) := by omega
              have HIA := hid (fun w => rin_any xa 0 ((M : Int) - 1) w)
              have HIB := hid (fun w => rin_any xb 0 ((M : Int) - 1) w)
              by_cases ha : 0 ≤ xa ∧ xa < M
              · have hI : (decide ((0 : Int) ≤ xa) && decide (xa ≤ (M : Int) - 1)) = true := by simp; omega
                rw [hI] at HIA
                clear hI
                by_cases hb : 0 ≤ xb ∧ xb < M
                · have hI : (decide ((0 : Int) ≤ xb) && decide (xb ≤ (M : Int) - 1)) = true := by simp; omega
                  rw [hI] at HIB
                  clear hI
                  go_wp2_with fail
                  refine (HIA.out _).mono ?_
                  rintro e w' ⟨rfl, hw⟩
                  obtain rfl := hw.symm
                  go_wp2_with fail
                  refine (HIB.out _).mono ?_
                  rintro e w' ⟨rfl, hw⟩
                  obtain rfl := hw.symm
                  go_wp2_with fail
                  go_roundg (m - (t + 1))
                  case measure => go_light; omega
                  case rel =>
                    refine ⟨t + 1, by omega, rfl, by go_num, rfl, hid fun j hj y hy => ?_⟩
                    by_cases hjt : j < t
                    · exact HT.out j hjt y hy
                    · obtain rfl : j = t := by omega
                      obtain ⟨e1, e2, e3⟩ := HXX.out
                      rw [e1] at hy
                      cases hy
                      exact ⟨by rw [e2]; exact ha, by rw [e3]; exact hb⟩
                · have hI : (decide ((0 : Int) ≤ xb) && decide (xb ≤ (M : Int) - 1)) = false := by simp; omega
                  rw [hI] at HIB
                  clear hI
                  go_wp2_with fail
                  refine (HIA.out _).mono ?_
                  rintro e w' ⟨rfl, hw⟩
                  obtain rfl := hw.symm
                  go_wp2_with fail
                  refine (HIB.out _).mono ?_
                  rintro e w' ⟨rfl, hw⟩
                  obtain rfl := hw.symm
                  go_wp2_with fail
                  go_ret
                  obtain ⟨e1, e2, e3⟩ := HXX.out
                  refine ⟨1, rfl, checkE_stop (by rw [HG.out]; exact ⟨h0, h4⟩) (by rw [HN.out]; exact n4) HD.out HL.out (.inr (.inr (.inl ⟨by rw [HLG.out]; omega, by rw [HM.out, HLG.out]; exact HNN.out, ⟨x, List.mem_of_getElem? e1, fun h => hb ?_⟩, rfl⟩))) (by decide), ?_⟩
                  · rw [← HM2.out] at h; rw [← e3]; exact h.2
                  · rw [HBE.out]; exact HB1.out
              · have hI : (decide ((0 : Int) ≤ xa) && decide (xa ≤ (M : Int) - 1)) = false := by simp; omega
                rw [hI] at HIA
                clear hI
                go_wp2_with fail
                refine (HIA.out _).mono ?_
                rintro e w' ⟨rfl, hw⟩
                obtain rfl := hw.symm
                go_wp2_with fail
                go_ret
                obtain ⟨e1, e2, e3⟩ := HXX.out
                refine ⟨1, rfl, checkE_stop (by rw [HG.out]; exact ⟨h0, h4⟩) (by rw [HN.out]; exact n4) HD.out HL.out (.inr (.inr (.inl ⟨by rw [HLG.out]; omega, by rw [HM.out, HLG.out]; exact HNN.out, ⟨x, List.mem_of_getElem? e1, fun h => ha ?_⟩, rfl⟩))) (by decide), ?_⟩
                · rw [← HM2.out] at h; rw [← e2]; exact h.1
                · rw [HBE.out]; exact HB1.out
            · have e : t = m := by omega
              subst e
              go_wp2_with fail
              go_roundg (n - (k + 1))
              case measure => go_light; omega
              case rel =>
                refine ⟨k + 1, by omega, rfl, by go_num, HB1, HR1, HX1, hid fun j hj y hy => ?_⟩
                by_cases hjk : j < k
                · exact HD.out j hjk y hy
                · obtain rfl : j = k := by omega
                  rw [HL.out] at hy
                  cases hy
                  refine ⟨by rw [HLG.out]; omega, by rw [HM.out, HLG.out]; exact HNN.out, fun q hq => ?_⟩
                  obtain ⟨i, hi, rfl⟩ := List.getElem_of_mem hq
                  rw [← HM2.out]
                  exact HT.out i (by rw [← HM.out]; exact hi) _ (by simp)
        · have e1 : ((m : Int) != (N : Int)) = true := by simp; omega
          go_wp2_with (go_at_call 25; refine (HI.out _).mono ?_; rintro e w' ⟨rfl, hw⟩; obtain rfl := hw.symm)
          go_quiet (fail)
          go_wp2_with fail
          go_ret
          refine ⟨4, rfl, ?_, ?_⟩
          all_goals first | (rw [HBE.out]; have hal := HB.out.alloc (Nat.le_of_lt xl) (.cells #[.int .i64 (lk : Int), .slice ga m gc] 50); exact ⟨hal.os, hal.tape, hal.output, hal.size, hal.block⟩) | exact checkE_stop (by rw [HG.out]; exact ⟨h0, h4⟩) (by rw [HN.out]; exact n4) HD.out HL.out (.inr (.inl ⟨by rw [HLG.out]; omega, by rw [HM.out, HLG.out]; rw [HNN.out] at hmN; exact hmN, rfl⟩)) (by decide)
      · have hI : (decide ((0 : Int) ≤ lg) && decide (lg ≤ 4)) = false := by simp; omega
        have HI := hid (fun w => rin_any lg 0 4 w)
        rw [hI] at HI
        clear hI
        go_wp2_with (go_at_call 25; refine (HI.out _).mono ?_; rintro e w' ⟨rfl, hw⟩; obtain rfl := hw.symm)
        go_ret
        refine ⟨1, rfl, checkE_stop (by rw [HG.out]; exact ⟨h0, h4⟩) (by rw [HN.out]; exact n4) HD.out HL.out (.inl ⟨by rw [HLG.out]; exact hin, rfl⟩) (by decide), ?_⟩
        rw [HBE.out]
        exact HB.out.alloc (Nat.le_of_lt xl) _
    · have e : k = n := by omega
      subst e
      go_wp2_with fail
      go_ret
      refine ⟨0, rfl, checkE_all (by rw [HG.out]; exact ⟨h0, h4⟩) (by intro e; have := HN.out; rw [e] at this; simp at this; omega) (by rw [HN.out]; exact n4) (fun j x hx => HD.out j (by have := (List.getElem?_eq_some_iff.1 hx).1; rw [HN.out] at this; exact this) x hx), ?_⟩
      rw [HBE.out]
      exact HB.out

/-- Circuit, of every circuit. -/
theorem rcirc_any (c : CQ) (g : Int) (ao : Option Addr) (n cap : Nat) (A : Nat → Option Addr) (C : Nat → Nat) (w : World) (hg : c.log = g) (hn : c.layers.length = n) (hr : CRow w ao c.layers A C) :
    Calls Tryd.prog 6 #[.agg #[.int .i64 g, .slice ao n cap]] w fun e w' => ∃ x, e = .returned (.int .i64 x) ∧ checkE c x ∧ Below w.heap.size w w' := by
  by_cases h : 0 ≤ g ∧ g ≤ 4
  · by_cases hz : n = 0
    · subst hz
      exact (rcirc_none g ao cap w h.1 h.2).mono fun e w' ⟨he, hb⟩ => ⟨1, he, .inl ⟨.inr (List.eq_nil_of_length_eq_zero hn), rfl⟩, hb⟩
    · by_cases h4 : 4 < n
      · exact (rcirc_large g ao n cap w h.1 h.2 h4).mono fun e w' ⟨he, hb⟩ => ⟨2, he, .inr (.inl ⟨by rw [hg]; exact h, by rw [hn]; exact h4, rfl⟩), hb⟩
      · obtain ⟨b, off, rfl, _⟩ := hr (by intro e; rw [e] at hn; simp at hn; omega)
        exact rcirc_main c g b off n cap A C w hg hn h.1 h.2 (by omega) (by omega) hr
  · exact (rcirc_log g ao n cap w h).mono fun e w' ⟨he, hb⟩ => ⟨1, he, .inl ⟨.inl (by rw [hg]; exact h), rfl⟩, hb⟩

end Go.Proofs.YtpkdkgpfjpalnaaDoor

/-
  A contract of tallyref's Values, for right circuits and inputs; it makes new blocks and writes nothing that was there.
-/
namespace Go.Proofs.YtpkdkgpfjpalnaaDoor
open Go.RowKit
set_option linter.unusedVariables false
attribute [local go_sem ↓] Go.wp_at_zero Go.wp_at_succ

theorem vnews (w : World) (x : Int) (t : TypeId) : ∀ j u, [Value.int .u64 x][j]? = some u → (w.alloc (.cells #[.int .u64 x] t)).cell? ((⟨w.heap.size, 0, none⟩ : Addr).add j) = some u := by
  intro j u hj
  match j, hj with
  | 0, hj => simp at hj; subst hj; simp [Addr.add]
theorem vone (x : Int) : ∀ u ∈ [Value.int .u64 x], u.oneCell' = true := by intro u hu; simp at hu; subst hu; rfl
/-- One number more behind a list of the call's own. -/
theorem vsnoc {w w1 w2 : World} {B : Nat} {v : Value} {n g c : Nat} {F : Nat → Int} {x : Int} {t : TypeId} (hb : Below B w w1) (hB : B ≤ w1.heap.size) (ho : Own w1 B v n F)
    (hown : w2.ownsRow B 45 1 (.slice (some ⟨g, 0, none⟩) (n + 1) c) (n + 1) (cellsOf n F ++ [.int .u64 x])) (hg : (w1.alloc (.cells #[.int .u64 x] t)).grownBy w2 v.ownBlock)
    (hx : F n = x) : Own w2 B (.slice (some ⟨g, 0, none⟩) (n + 1) c) (n + 1) F ∧ Below B w w2 := by
  refine ⟨?_, (hb.alloc hB _).grown hg (by simp; omega) (by intro t ht; exact (World.ownsRow.lt ho t ht).1)⟩
  rw [cellsOf_snoc] at hown
  exact Own.congr hown fun j hj => by
    unfold catF
    by_cases e : j < n
    · rw [if_pos e]
    · rw [if_neg e, show j = n from by omega]; exact hx.symm
theorem layV_at2 {gs : List GQ} {F : Nat → Int} {t : Nat} {x : GQ} (h : gs[t]? = some x) : layV gs F t = if x.mul then mulQ (F x.a.toNat) (F x.b.toNat) else addQ (F x.a.toNat) (F x.b.toNat) := by
  unfold layV; rw [h]
theorem grown_cell {w w2 : World} {o : Obj} {r : Option Nat} {b p : Nat} {u : Value} (hg : (w.alloc o).drew.grownBy w2 r) (hne : some b ≠ r) (hb : b < w.heap.size) (h : w.cell? ⟨b, p, none⟩ = some u) : w2.cell? ⟨b, p, none⟩ = some u := by
  refine hg.cell ?_ hne
  show (w.alloc o).cell? _ = _
  rw [World.cell?_alloc_old _ _ _ (Nat.ne_of_lt hb)]; exact h
theorem grown_undrew {w w2 : World} {r : Option Nat} (h : w.drew.grownBy w2 r) : w.grownBy w2 r := ⟨h.os, h.tape, h.output, h.size, h.block⟩

set_option maxHeartbeats 1000000 in
set_option maxRecDepth 100000 in
theorem rvals_zero (g : Int) (ao : Option Addr) (n cap db doff N kc : Nat) (f : Nat → Int) (w : World) (hN : N ≤ 1000) (hr : Row w db doff N f) (hf : Nums f) :
    Calls Tryd.prog 18 #[.agg #[.int .i64 g, .slice ao n cap], .slice (some ⟨db, doff, none⟩) N kc, .int .i64 (-1)] w fun e w' => ∃ v, e = .returned v ∧ Own w' w.heap.size v N (fun j => nrm (f j)) ∧ Below w.heap.size w w' := by
  obtain ⟨i0, hi, hz0, hz1, hz2⟩ := info_parts Tryd.infoO
  have HI := hid (And.intro hi (And.intro hz0 (And.intro hz1 hz2)))
  clear hi hz0 hz1 hz2
  have HR := hid hr
  have HF := hid hf
  clear hr hf
  go_enter Tryd.func18, Tryd.ntmps18
  go_wp2_with fail
  have HW0 := hid ((Below.refl w.heap.size w).alloc (Nat.le_refl _) (.cells #[.int .i64 g, .slice ao n cap] 24))
  generalize w.alloc (.cells #[.int .i64 g, .slice ao n cap] 24) = W0 at HW0 ⊢
  go_loopg [7, 8] N (fun q o i wr => ∃ (k : Nat) (v : Value), k ≤ N ∧ q = N - k ∧ o = v ∧ i = .int .i64 (k : Int) ∧ Hid (Own wr w.heap.size v k (fun j => nrm (f j))) ∧ Hid (Below w.heap.size w wr))
  case atStart => exact ⟨0, _, by omega, rfl, rfl, rfl, hid (Own.nil _ _ _), HW0⟩
  case round =>
    clear HW0
    obtain ⟨k, v, hk, rfl, rfl, rfl, HO, HB⟩ := hrel
    by_cases hlt : k < N
    · have c1 : wr.cell? ⟨db, doff + k, none⟩ = some (.int .u64 (f k)) := (HR.out.kept HB.out (HR.out.lt (by omega))) k hlt
      obtain ⟨a, ha⟩ : ∃ a, f k = a := ⟨_, rfl⟩
      obtain ⟨a0, a1⟩ := HF.out k
      rw [ha] at c1 a0 a1
      have HY : Hid ((fun j => nrm (f j)) k = nrm a) := hid (by show nrm (f k) = _; rw [ha])
      have k0 : (0 : Int) ≤ (k : Int) := by omega
      have k1 : (k : Int) < (N : Int) := by omega
      have hs := HB.out.size
      clear ha
      have HNN := hid (rnorm_any a wr a0 a1)
      obtain ⟨y, hy⟩ : ∃ y, nrm a = y := ⟨_, rfl⟩
      rw [hy] at HY HNN
      clear hy
      go_wp2_with fail
      refine (HNN.out).mono ?_
      rintro e w' ⟨rfl, hw⟩
      obtain rfl := hw.symm
      go_wp2_with (at_builtin; refine wpList_append_lies _ rfl _ _ 25 rfl w.heap.size 45 i0 (.int .u64 0) 1 8 Tryd.underlying25 HI.out.1 HI.out.2.1 HI.out.2.2.1 HI.out.2.2.2 rfl (by decide) _ _ _ rfl (World.ownsRow.alloc HO.out _) ⟨wr.heap.size, 0, none⟩ 1 1 [.int .u64 y] rfl rfl (vnews wr y _) (vone y) (by omega) (by unfold maxLen; omega) (by omega) (by simp; omega) (wr.heap.size + 1) (by simp) ?_)
      intro g2 c2 w6 hown2 hgrow2 hat2 hlt2
      have HS := hid (vsnoc HB.out hs HO.out hown2 hgrow2 HY.out)
      clear hown2 hgrow2 hat2 hlt2
      go_wp2_with fail
      go_roundg (N - (k + 1))
      case measure => go_light; omega
      case rel => exact ⟨k + 1, _, by omega, rfl, rfl, by go_num, hid HS.out.1, hid HS.out.2⟩
    · have e : k = N := by omega
      subst e
      go_wp2_with fail
      go_ret
      exact ⟨_, rfl, HO.out, HB.out⟩

set_option maxHeartbeats 1000000 in
set_option maxRecDepth 100000 in
theorem rvals_step (l : LQ) (g : Int) (b off n cap : Nat) (ga : Option Addr) (gc : Nat) (ad : Option Addr) (N kc k nb m : Nat) (F G : Nat → Int) (w : World) (hk : k < n) (n4 : n ≤ 4) (hm : l.gates.length = m) (m16 : m ≤ 16) (nb16 : nb ≤ 16) (hF : Nums F) (hG : layV l.gates F = G)
    (hc : w.cell? ⟨b, off + 2 * k + 1, none⟩ = some (.slice ga m gc)) (hgr : GRow w ga l.gates) (hok : ∀ q ∈ l.gates, gateOk (nb : Int) q)
    (ih : ∀ W, Below w.heap.size w W → Calls Tryd.prog 18 #[.agg #[.int .i64 g, .slice (some ⟨b, off, none⟩) n cap], .slice ad N kc, .int .i64 ((k : Int) - 1)] W fun e w' => ∃ v, e = .returned v ∧ Own w' W.heap.size v nb F ∧ Below W.heap.size W w') :
    Calls Tryd.prog 18 #[.agg #[.int .i64 g, .slice (some ⟨b, off, none⟩) n cap], .slice ad N kc, .int .i64 (k : Int)] w fun e w' => ∃ v, e = .returned v ∧ Own w' w.heap.size v m G ∧ Below w.heap.size w w' := by
  obtain ⟨i0, hi, hz0, hz1, hz2⟩ := info_parts Tryd.infoO
  have HI := hid (And.intro hi (And.intro hz0 (And.intro hz1 hz2)))
  clear hi hz0 hz1 hz2
  rw [Nat.mul_comm 2 k] at hc
  have bl : b < w.heap.size := World.block_lt_of_cell? w _ hc
  have HC := hid (And.intro hc bl)
  have HGR := hid hgr
  have HOK := hid hok
  have HF := hid hF
  have HG := hid hG
  have HM := hid hm
  have HIH := hid ih
  have kk0 : ¬ ((k : Int) < 0) := by omega
  have k0 : (0 : Int) ≤ (k : Int) := by omega
  have k1 : (k : Int) < (n : Int) := by omega
  clear hc hgr hok hF hG hm ih bl
  go_enter Tryd.func18, Tryd.ntmps18
  go_wp2_with fail
  have HW0 := hid ((Below.refl w.heap.size w).alloc (Nat.le_refl _) (.cells #[.int .i64 g, .slice (some ⟨b, off, none⟩) n cap] 24))
  have HX0 := hid (Box2.new w (.int .i64 g) (.slice (some ⟨b, off, none⟩) n cap) 24)
  obtain ⟨B, hB⟩ : ∃ B, w.heap.size = B := ⟨_, rfl⟩
  rw [hB] at HX0 ⊢
  have HBE := hid hB
  clear hB
  refine (HIH.out _ HW0.out).mono ?_
  rintro e w3 ⟨vb, rfl, hob, hbb⟩
  obtain ⟨ab, cb, rfl, hpb, _⟩ := hob.is
  have HX3 := hid (HX0.out.kept hbb)
  have HW3 := hid (HW0.out.trans (hbb.mono HW0.out.size))
  have HPB := hid hpb
  clear hob hbb hpb HX0 HW0 HIH
  obtain ⟨E, hE⟩ : ∃ E, w3.heap.size = E := ⟨_, rfl⟩
  have HEE := hid hE
  clear hE
  go_wp2_with fail
  go_loopg [7, 10] m (fun q o i wr => ∃ (t : Nat) (v : Value), t ≤ m ∧ q = m - t ∧ o = v ∧ i = .int .i64 (t : Int) ∧ Hid (Own wr E v t G) ∧ Hid (Below E w3 wr))
  case atStart => exact ⟨0, _, by omega, rfl, rfl, rfl, hid (Own.nil _ _ _), hid (Below.refl _ _)⟩
  case round =>
    obtain ⟨t, v, ht, rfl, hv, rfl, HO, HB⟩ := hrel
    obtain rfl := hv.symm
    have hs : E ≤ wr.heap.size := by have h1 := HB.out.size; have h2 := HEE.out; omega
    have HB3 : Hid (Below w.heap.size w wr) := hid (HW3.out.trans (HB.out.mono (by have h1 := HW3.out.size; have h2 := HEE.out; omega)))
    have hbw : Below w3.heap.size w3 wr := by rw [HEE.out]; exact HB.out
    obtain ⟨x0, x1, xl⟩ := HX3.out.kept hbw
    have y1 : wr.cell? ⟨b, off + k * 2 + 1, none⟩ = some (.slice ga m gc) := (HB3.out.cell HC.out.2).trans HC.out.1
    by_cases htl : t < m
    · obtain ⟨x, hx⟩ : ∃ x, l.gates[t]? = some x := ⟨l.gates[t]'(by rw [HM.out]; exact htl), by simp⟩
      obtain ⟨gb, go, rfl, hgc⟩ := HGR.out.kept HB3.out (by intro e; have := HM.out; rw [e] at this; simp at this; omega)
      obtain ⟨q0, q1, q2⟩ := hgc t x hx
      obtain ⟨⟨a0, a1⟩, b0, b1⟩ := HOK.out x (List.mem_of_getElem? hx)
      rw [Nat.mul_comm 3 t] at q0 q1 q2
      obtain ⟨xm, hxm⟩ : ∃ v, x.mul = v := ⟨_, rfl⟩
      obtain ⟨ia, hia⟩ : ∃ v : Nat, x.a = (v : Int) := ⟨x.a.toNat, by omega⟩
      obtain ⟨ib, hib⟩ : ∃ v : Nat, x.b = (v : Int) := ⟨x.b.toNat, by omega⟩
      rw [hxm] at q0
      rw [hia] at q1 a1
      rw [hib] at q2 b1
      have hlay := layV_at2 (F := F) hx
      rw [hxm, hia, hib, Int.toNat_natCast, Int.toNat_natCast, HG.out] at hlay
      clear hgc hx hxm hia hib a0 b0
      obtain ⟨bb, boff, eb, hrow⟩ := HPB.out.kept hbw (by omega)
      subst eb
      obtain ⟨va, hva⟩ : ∃ v, F ia = v := ⟨_, rfl⟩
      obtain ⟨vb, hvb⟩ : ∃ v, F ib = v := ⟨_, rfl⟩
      have ca := hrow ia (by omega)
      have cb2 := hrow ib (by omega)
      have bbl : bb < wr.heap.size := World.block_lt_of_cell? wr _ ca
      have bbE : bb < E := by obtain ⟨b9, o9, e9, h9⟩ := HPB.out (by omega); cases e9; rw [← HEE.out]; exact World.block_lt_of_cell? w3 _ (h9 ia (by omega))
      obtain ⟨va0, va1⟩ := HF.out ia
      obtain ⟨vb0, vb1⟩ := HF.out ib
      rw [hva] at va0 va1 hlay ca
      rw [hvb] at vb0 vb1 hlay cb2
      clear hva hvb hrow hbw
      have t0 : (0 : Int) ≤ (t : Int) := by omega
      have t1 : (t : Int) < (m : Int) := by omega
      have i1 : (0 : Int) ≤ (ia : Int) := by omega
      have i2 : (0 : Int) ≤ (ib : Int) := by omega
      have i3 : ia < nb := by omega
      have i4 : ib < nb := by omega
      rcases (by cases xm; exact .inr rfl; exact .inl rfl : xm = true ∨ xm = false) with hxm | hxm
      · subst hxm
        rw [if_pos rfl] at hlay
        obtain ⟨y, hy⟩ : ∃ y, mulQ va vb = y := ⟨_, rfl⟩
        have HMU := hid (fun W => rmul_any va vb W (by omega) (by omega) (by omega) (by omega))
        rw [hy] at HMU hlay
        have HLAY := hid hlay
        have hal := (Below.refl wr.heap.size wr).alloc (Nat.le_refl _) (.cells #[.bool true, .int .i64 (ia : Int), .int .i64 (ib : Int)] 67)
        clear hlay hy
        go_wp2_with fail
        have HNE : Hid (some bb ≠ v.ownBlock ∧ some wr.heap.size ≠ v.ownBlock) := hid ⟨fun e => by have := (World.ownsRow.lt HO.out bb e.symm).1; omega, fun e => by have := (World.ownsRow.lt HO.out _ e.symm).2; omega⟩
        have HO1 := hid (HO.out.kept hal)
        have HB1 := hid (HB.out.trans (hal.mono hs))
        have g0 : (wr.alloc (.cells #[.bool true, .int .i64 (ia : Int), .int .i64 (ib : Int)] 67)).cell? ⟨wr.heap.size, 1, none⟩ = some (.int .i64 (ia : Int)) := by rw [World.cell?_alloc_new]; rfl
        have g1 : (wr.alloc (.cells #[.bool true, .int .i64 (ia : Int), .int .i64 (ib : Int)] 67)).cell? ⟨wr.heap.size, 2, none⟩ = some (.int .i64 (ib : Int)) := by rw [World.cell?_alloc_new]; rfl
        have g2 : (wr.alloc (.cells #[.bool true, .int .i64 (ia : Int), .int .i64 (ib : Int)] 67)).cell? ⟨bb, boff + ia, none⟩ = some (.int .u64 va) := (hal.cell (p := ⟨bb, boff + ia, none⟩) bbl).trans ca
        have g3 : (wr.alloc (.cells #[.bool true, .int .i64 (ia : Int), .int .i64 (ib : Int)] 67)).cell? ⟨bb, boff + ib, none⟩ = some (.int .u64 vb) := (hal.cell (p := ⟨bb, boff + ib, none⟩) bbl).trans cb2
        have gsz : (wr.alloc (.cells #[.bool true, .int .i64 (ia : Int), .int .i64 (ib : Int)] 67)).heap.size = wr.heap.size + 1 := by simp
        obtain ⟨Gb, hGb⟩ : ∃ G, wr.heap.size = G := ⟨_, rfl⟩
        rw [hGb] at g0 g1 gsz hs bbl HNE ⊢
        clear hGb hal q0 q1 q2 ca cb2
        generalize wr.alloc (.cells #[.bool true, .int .i64 (ia : Int), .int .i64 (ib : Int)] 67) = W1 at HO1 HB1 g0 g1 g2 g3 gsz ⊢
        have HS4 := hid (And.intro g0 (And.intro g1 (And.intro g2 g3)))
        have sz1 : Gb < W1.heap.size := by omega
        have sz2 : bb < W1.heap.size := by omega
        have sz3 : E ≤ W1.heap.size := by omega
        clear gsz
        have HK : Hid (∀ o, (W1.alloc o).cell? ⟨Gb, 1, none⟩ = some (.int .i64 (ia : Int)) ∧ (W1.alloc o).cell? ⟨Gb, 2, none⟩ = some (.int .i64 (ib : Int)) ∧ (W1.alloc o).cell? ⟨bb, boff + ia, none⟩ = some (.int .u64 va) ∧ (W1.alloc o).cell? ⟨bb, boff + ib, none⟩ = some (.int .u64 vb)) := hid fun o => by
          refine ⟨?_, ?_, ?_, ?_⟩
          · rw [World.cell?_alloc_old _ _ _ (Nat.ne_of_lt sz1)]; exact g0
          · rw [World.cell?_alloc_old _ _ _ (Nat.ne_of_lt sz1)]; exact g1
          · rw [World.cell?_alloc_old _ _ _ (Nat.ne_of_lt sz2)]; exact g2
          · rw [World.cell?_alloc_old _ _ _ (Nat.ne_of_lt sz2)]; exact g3
        go_region_held3 (fun w' => w'.cell? ⟨Gb, 1, none⟩ = some (.int .i64 (ia : Int)) ∧ w'.cell? ⟨Gb, 2, none⟩ = some (.int .i64 (ib : Int)) ∧ w'.cell? ⟨bb, boff + ia, none⟩ = some (.int .u64 va) ∧ w'.cell? ⟨bb, boff + ib, none⟩ = some (.int .u64 vb)) (first | assumption | exact HS4.out | exact HK.out _ | exact hk3) (first
          | (go_at_call 48; refine (HMU.out _).mono ?_; rintro e w' ⟨rfl, hw⟩; obtain rfl := hw.symm)
          | (refine step_append_lies _ (by rfl) _ _ 25 (by rfl) E 45 i0 (.int .u64 0) 1 8 Tryd.underlying25 HI.out.1 HI.out.2.1 HI.out.2.2.1 HI.out.2.2.2 rfl (by decide) v t (cellsOf t G) (by rfl) (World.ownsRow.alloc HO1.out _) ⟨W1.heap.size, 0, none⟩ 1 1 [.int .u64 y] (by rfl) (by rfl) (vnews W1 y _) (vone y) (by omega) (by unfold maxLen; omega) (by omega) (by simp; omega) (W1.heap.size + 1) (by simp) ?_; intro g2' c2' w6 hown2 hgrow2 hat2 hlt2; have hk3 : w6.cell? ⟨Gb, 1, none⟩ = some (.int .i64 (ia : Int)) ∧ w6.cell? ⟨Gb, 2, none⟩ = some (.int .i64 (ib : Int)) ∧ w6.cell? ⟨bb, boff + ia, none⟩ = some (.int .u64 va) ∧ w6.cell? ⟨bb, boff + ib, none⟩ = some (.int .u64 vb) := ⟨grown_cell hgrow2 HNE.out.2 sz1 HS4.out.1, grown_cell hgrow2 HNE.out.2 sz1 HS4.out.2.1, grown_cell hgrow2 HNE.out.1 sz2 HS4.out.2.2.1, grown_cell hgrow2 HNE.out.1 sz2 HS4.out.2.2.2⟩))
        have HS := hid (vsnoc HB1.out sz3 HO1.out hown2 (grown_undrew hgrow2) HLAY.out)
        clear hown2 hgrow2 hat2 hlt2
        go_wp2_with fail
        go_roundg (m - (t + 1))
        case measure => go_light; omega
        case rel => exact ⟨t + 1, _, by omega, rfl, rfl, by go_num, hid HS.out.1, hid HS.out.2⟩
      · subst hxm
        rw [if_neg (by decide)] at hlay
        obtain ⟨y, hy⟩ : ∃ y, addQ va vb = y := ⟨_, rfl⟩
        have HMU := hid (fun W => radd_any va vb W (by omega) (by omega) (by omega) (by omega))
        rw [hy] at HMU hlay
        have HLAY := hid hlay
        have hal := (Below.refl wr.heap.size wr).alloc (Nat.le_refl _) (.cells #[.bool false, .int .i64 (ia : Int), .int .i64 (ib : Int)] 67)
        clear hlay hy
        go_wp2_with fail
        have HNE : Hid (some bb ≠ v.ownBlock ∧ some wr.heap.size ≠ v.ownBlock) := hid ⟨fun e => by have := (World.ownsRow.lt HO.out bb e.symm).1; omega, fun e => by have := (World.ownsRow.lt HO.out _ e.symm).2; omega⟩
        have HO1 := hid (HO.out.kept hal)
        have HB1 := hid (HB.out.trans (hal.mono hs))
        have g0 : (wr.alloc (.cells #[.bool false, .int .i64 (ia : Int), .int .i64 (ib : Int)] 67)).cell? ⟨wr.heap.size, 1, none⟩ = some (.int .i64 (ia : Int)) := by rw [World.cell?_alloc_new]; rfl
        have g1 : (wr.alloc (.cells #[.bool false, .int .i64 (ia : Int), .int .i64 (ib : Int)] 67)).cell? ⟨wr.heap.size, 2, none⟩ = some (.int .i64 (ib : Int)) := by rw [World.cell?_alloc_new]; rfl
        have g2 : (wr.alloc (.cells #[.bool false, .int .i64 (ia : Int), .int .i64 (ib : Int)] 67)).cell? ⟨bb, boff + ia, none⟩ = some (.int .u64 va) := (hal.cell (p := ⟨bb, boff + ia, none⟩) bbl).trans ca
        have g3 : (wr.alloc (.cells #[.bool false, .int .i64 (ia : Int), .int .i64 (ib : Int)] 67)).cell? ⟨bb, boff + ib, none⟩ = some (.int .u64 vb) := (hal.cell (p := ⟨bb, boff + ib, none⟩) bbl).trans cb2
        have gsz : (wr.alloc (.cells #[.bool false, .int .i64 (ia : Int), .int .i64 (ib : Int)] 67)).heap.size = wr.heap.size + 1 := by simp
        obtain ⟨Gb, hGb⟩ : ∃ G, wr.heap.size = G := ⟨_, rfl⟩
        rw [hGb] at g0 g1 gsz hs bbl HNE ⊢
        clear hGb hal q0 q1 q2 ca cb2
        generalize wr.alloc (.cells #[.bool false, .int .i64 (ia : Int), .int .i64 (ib : Int)] 67) = W1 at HO1 HB1 g0 g1 g2 g3 gsz ⊢
        have HS4 := hid (And.intro g0 (And.intro g1 (And.intro g2 g3)))
        have sz1 : Gb < W1.heap.size := by omega
        have sz2 : bb < W1.heap.size := by omega
        have sz3 : E ≤ W1.heap.size := by omega
        clear gsz
        have HK : Hid (∀ o, (W1.alloc o).cell? ⟨Gb, 1, none⟩ = some (.int .i64 (ia : Int)) ∧ (W1.alloc o).cell? ⟨Gb, 2, none⟩ = some (.int .i64 (ib : Int)) ∧ (W1.alloc o).cell? ⟨bb, boff + ia, none⟩ = some (.int .u64 va) ∧ (W1.alloc o).cell? ⟨bb, boff + ib, none⟩ = some (.int .u64 vb)) := hid fun o => by
          refine ⟨?_, ?_, ?_, ?_⟩
          · rw [World.cell?_alloc_old _ _ _ (Nat.ne_of_lt sz1)]; exact g0
          · rw [World.cell?_alloc_old _ _ _ (Nat.ne_of_lt sz1)]; exact g1
          · rw [World.cell?_alloc_old _ _ _ (Nat.ne_of_lt sz2)]; exact g2
          · rw [World.cell?_alloc_old _ _ _ (Nat.ne_of_lt sz2)]; exact g3
        go_region_held3 (fun w' => w'.cell? ⟨Gb, 1, none⟩ = some (.int .i64 (ia : Int)) ∧ w'.cell? ⟨Gb, 2, none⟩ = some (.int .i64 (ib : Int)) ∧ w'.cell? ⟨bb, boff + ia, none⟩ = some (.int .u64 va) ∧ w'.cell? ⟨bb, boff + ib, none⟩ = some (.int .u64 vb)) (first | assumption | exact HS4.out | exact HK.out _ | exact hk3) (first
          | (go_at_call 34; refine (HMU.out _).mono ?_; rintro e w' ⟨rfl, hw⟩; obtain rfl := hw.symm)
          | (refine step_append_lies _ (by rfl) _ _ 25 (by rfl) E 45 i0 (.int .u64 0) 1 8 Tryd.underlying25 HI.out.1 HI.out.2.1 HI.out.2.2.1 HI.out.2.2.2 rfl (by decide) v t (cellsOf t G) (by rfl) (World.ownsRow.alloc HO1.out _) ⟨W1.heap.size, 0, none⟩ 1 1 [.int .u64 y] (by rfl) (by rfl) (vnews W1 y _) (vone y) (by omega) (by unfold maxLen; omega) (by omega) (by simp; omega) (W1.heap.size + 1) (by simp) ?_; intro g2' c2' w6 hown2 hgrow2 hat2 hlt2; have hk3 : w6.cell? ⟨Gb, 1, none⟩ = some (.int .i64 (ia : Int)) ∧ w6.cell? ⟨Gb, 2, none⟩ = some (.int .i64 (ib : Int)) ∧ w6.cell? ⟨bb, boff + ia, none⟩ = some (.int .u64 va) ∧ w6.cell? ⟨bb, boff + ib, none⟩ = some (.int .u64 vb) := ⟨grown_cell hgrow2 HNE.out.2 sz1 HS4.out.1, grown_cell hgrow2 HNE.out.2 sz1 HS4.out.2.1, grown_cell hgrow2 HNE.out.1 sz2 HS4.out.2.2.1, grown_cell hgrow2 HNE.out.1 sz2 HS4.out.2.2.2⟩))
        have HS := hid (vsnoc HB1.out sz3 HO1.out hown2 (grown_undrew hgrow2) HLAY.out)
        clear hown2 hgrow2 hat2 hlt2
        go_wp2_with fail
        go_roundg (m - (t + 1))
        case measure => go_light; omega
        case rel => exact ⟨t + 1, _, by omega, rfl, rfl, by go_num, hid HS.out.1, hid HS.out.2⟩
    · have e : t = m := by omega
      subst e
      go_wp2_with fail
      go_ret
      exact ⟨_, rfl, (World.ownsRow.mono HO.out (by have h1 := HW3.out.size; have h2 := HEE.out; omega)), HB3.out⟩

/-- Values, of every layer of a right circuit, the inputs first. -/
theorem rvals_any (c : CQ) (g : Int) (b off n cap : Nat) (A : Nat → Option Addr) (C : Nat → Nat) (db doff N kc : Nat) (f : Nat → Int) (hn : c.layers.length = n) (hc : c.right) (hN : lenQ c 0 = N) (hf : Nums f) (k : Nat) (hk : k ≤ n) :
    ∀ (z : Int) (w : World), z = (k : Int) - 1 → CRow w (some ⟨b, off, none⟩) c.layers A C → Row w db doff N f →
    Calls Tryd.prog 18 #[.agg #[.int .i64 g, .slice (some ⟨b, off, none⟩) n cap], .slice (some ⟨db, doff, none⟩) N kc, .int .i64 z] w fun e w' => ∃ v, e = .returned v ∧ Own w' w.heap.size v (lenQ c k) (valsQ c f k) ∧ Below w.heap.size w w' := by
  have n4 : n ≤ 4 := by have := hc.few; omega
  have N16 := lenQ_rng hc 0 (Nat.zero_le _)
  have N0 : 0 < N := by omega
  induction k with
  | zero =>
    intro z w hz hr hi
    rw [show z = -1 from by omega, hN]
    exact rvals_zero g _ n cap db doff N kc f w (by omega) hi hf
  | succ k ih =>
    intro z w hz hr hi
    rw [show z = (k : Int) from by omega]
    obtain ⟨l, hl⟩ : ∃ l, c.layers[k]? = some l := ⟨c.layers[k]'(by omega), by simp⟩
    obtain ⟨b', off', eb, hcell⟩ := hr (by intro e; rw [e] at hn; simp at hn; omega)
    cases eb
    obtain ⟨y0, y1, y2, y3⟩ := hcell k l hl
    have mr := lenQ_rng hc (k + 1) (by omega)
    have nr := lenQ_rng hc k (by omega)
    refine rvals_step l g b off n cap (A k) (C k) (some ⟨db, doff, none⟩) N kc k (lenQ c k) (lenQ c (k + 1)) (valsQ c f k) (valsQ c f (k + 1)) w (by omega) n4 (lenQ_layer hc hl) mr.2 nr.2 (Nums_vals c f k) (vals_layer hl) ?_ y2 (hc.layer k l hl).2.2 ?_
    · rw [← lenQ_layer hc hl]; exact y1
    · intro W hb
      refine ih (by omega) ((k : Int) - 1) W rfl (hr.kept hb) ?_
      exact hi.kept hb (hi.lt N0)

end Go.Proofs.YtpkdkgpfjpalnaaDoor

/-
  Contracts of tallyref's Need and line, of right things; they make new rows and write nothing that was there.
-/
namespace Go.Proofs.YtpkdkgpfjpalnaaDoor
open Go.RowKit
set_option linter.unusedVariables false
attribute [local go_sem ↓] Go.wp_at_zero Go.wp_at_succ

set_option maxHeartbeats 2000000 in
set_option maxRecDepth 100000 in
theorem rneed_any (c : CQ) (g : Int) (b off n cap : Nat) (A : Nat → Option Addr) (C : Nat → Nat) (w : World) (hg : c.log = g) (hn : c.layers.length = n) (hr : CRow w (some ⟨b, off, none⟩) c.layers A C) (hc : c.right) :
    Calls Tryd.prog 10 #[.agg #[.int .i64 g, .slice (some ⟨b, off, none⟩) n cap]] w fun e w' => e = .returned (.int .i64 (needQ c : Int)) ∧ Below w.heap.size w w' := by
  have n4 : n ≤ 4 := by have := hc.few; omega
  have n1 : 1 ≤ n := by have := List.length_pos_iff.2 hc.some; omega
  obtain ⟨m, rfl⟩ : ∃ m, n = m + 1 := ⟨n - 1, by omega⟩
  obtain ⟨l, hl⟩ : ∃ l, c.layers[m]? = some l := ⟨c.layers[m]'(by omega), by simp⟩
  obtain ⟨lz, hlz⟩ : ∃ x : Nat, l.log = (x : Int) := ⟨l.log.toNat, by have := (hc.layer m l hl).1; omega⟩
  have lz4 : lz ≤ 4 := by have := (hc.layer m l hl).1; omega
  have HL0 : Hid ((partsQ c).lg 0 = lz) := hid (by
    show (belowQ c (c.layers.length - 0)).toNat = lz
    rw [hn, Nat.sub_zero, belowQ, hl]
    show l.log.toNat = lz
    rw [hlz, Int.toNat_natCast])
  have HNP := hid (needP_le hc)
  have HR := hid hr
  have HG := hid hg
  have HN := hid hn
  have HC := hid hc
  have HS0 := hid (StW.start w g (.slice (some ⟨b, off, none⟩) (m + 1) cap) 24)
  obtain ⟨b', off', eb, hcl⟩ := hr hc.some
  cases eb
  have y0 := (hcl m l hl).1
  have yb : b < w.heap.size := World.block_lt_of_cell? w _ y0
  rw [Nat.mul_comm 2 m, hlz] at y0
  have y0' : ∀ o, (w.alloc o).cell? ⟨b, off + m * 2, none⟩ = some (.int .i64 (lz : Int)) := fun o => by rw [World.cell?_alloc_old _ _ _ (Nat.ne_of_lt yb)]; exact y0
  have m0 : (0 : Int) ≤ (m : Int) := by omega
  have m1 : (m : Int) < (m : Int) + 1 := by omega
  clear hr hg hn hc hcl hl hlz y0 yb
  go_enter Tryd.func10, Tryd.ntmps10
  go_wp2_with fail
  clear y0' m0 m1
  obtain ⟨B, hB⟩ : ∃ B, w.heap.size = B := ⟨_, rfl⟩
  have HS1 : Hid (StW w (w.alloc (.cells #[.int .i64 g, .slice (some ⟨b, off, none⟩) (m + 1) cap] 24)) B g (.slice (some ⟨b, off, none⟩) (m + 1) cap)) := hid (by rw [← hB]; exact HS0.out)
  rw [hB]
  clear hB HS0
  generalize w.alloc (.cells #[.int .i64 g, .slice (some ⟨b, off, none⟩) (m + 1) cap] 24) = W1 at HS1 ⊢
  go_loopg [3, 4] (m + 1) (fun q s i wr => ∃ (t p : Nat), t ≤ m + 1 ∧ q = m + 1 - t ∧ s = .int .i64 (p : Int) ∧ i = .int .i64 (t : Int) ∧ p ≤ 4 + 9 * t ∧ Hid (p = lz + needP c t) ∧ Hid (StW w wr B g (.slice (some ⟨b, off, none⟩) (m + 1) cap)))
  case atStart => exact ⟨0, lz, by omega, rfl, rfl, rfl, by omega, hid rfl, HS1⟩
  case round =>
    clear HS1
    obtain ⟨t, p, ht, rfl, rfl, rfl, hp, HP, HS⟩ := hrel
    obtain ⟨z0, z1, zl⟩ := HS.out.box
    by_cases htl : t < m + 1
    · obtain ⟨bk, hbk, bk4⟩ := belowQ_rng HC.out t
      have HBE : Hid (∀ W, Below w.heap.size w W → Calls Tryd.prog 17 #[.agg #[.int .i64 g, .slice (some ⟨b, off, none⟩) (m + 1) cap], .int .i64 (t : Int)] W fun e w' => e = .returned (.int .i64 (bk : Int)) ∧ Below W.heap.size W w') := hid (fun W h => by rw [← hbk]; exact rbelow_any c g b off (m + 1) cap t A C W HG.out HN.out n4 (by omega) (HR.out.kept h))
      have HNX : Hid (p + 2 * bk + 1 = lz + needP c (t + 1)) := hid (by rw [HP.out, needP, hbk, Int.toNat_natCast]; omega)
      have t1 : (t : Int) < (m : Int) + 1 := by omega
      have iw1 : IntKind.i64.wrap ((bk : Int) + (bk : Int)) = (bk : Int) + (bk : Int) := IntWalk.i64_in _ (by omega)
      have iw2 : IntKind.i64.wrap ((bk : Int) + (bk : Int) + 1) = (bk : Int) + (bk : Int) + 1 := IntWalk.i64_in _ (by omega)
      have iw3 : IntKind.i64.wrap ((p : Int) + ((bk : Int) + (bk : Int) + 1)) = (p : Int) + ((bk : Int) + (bk : Int) + 1) := IntWalk.i64_in _ (by omega)
      clear hbk
      have mark : Hid True := hid trivial
      go_wp2_with fail
      go_region_held3 (fun W => W.cell? ⟨B, 0, none⟩ = some (.int .i64 g) ∧ W.cell? ⟨B, 1, none⟩ = some (.slice (some ⟨b, off, none⟩) (m + 1) cap)) (first | assumption | exact ⟨z0, z1⟩ | exact zx | exact zy) (first
        | (go_at_call 17; first | (clear mark; refine (HBE.out _ HS.out.bel.drew).mono ?_; rintro e w2 ⟨rfl, hb⟩; have hbA : Below wr.heap.size wr w2 := (Below.refl _ wr).drew.trans hb; have HSX := hid (HS.out.next hbA); have zx : w2.cell? ⟨B, 0, none⟩ = some (.int .i64 g) ∧ w2.cell? ⟨B, 1, none⟩ = some (.slice (some ⟨b, off, none⟩) (m + 1) cap) := ⟨HSX.out.box.c0, HSX.out.box.c1⟩; clear hb hbA) | (refine (HBE.out _ HSX.out.bel).mono ?_; rintro e w3 ⟨rfl, hb⟩; have HSY := hid (HSX.out.next hb); have zy : w3.cell? ⟨B, 0, none⟩ = some (.int .i64 g) ∧ w3.cell? ⟨B, 1, none⟩ = some (.slice (some ⟨b, off, none⟩) (m + 1) cap) := ⟨HSY.out.box.c0, HSY.out.box.c1⟩; clear hb)))
      clear z0 z1 zl zx zy HSX iw1 iw2 iw3
      go_wp2_with fail
      go_roundg (m + 1 - (t + 1))
      case measure => go_light; omega
      case rel => exact ⟨t + 1, p + 2 * bk + 1, by omega, rfl, by go_num, by go_num, by omega, HNX, HSY⟩
    · have e : t = m + 1 := by omega
      have HFIN : Hid ((p : Int) = (needQ c : Int)) := hid (by rw [need_is, HL0.out, HN.out, ← e, ← HP.out])
      have t1 : ¬ ((t : Int) < (m : Int) + 1) := by omega
      clear e
      go_wp2_with fail
      go_ret
      exact ⟨by rw [HFIN.out]; rfl, HS.out.bel⟩

set_option maxHeartbeats 2000000 in
set_option maxRecDepth 100000 in
theorem rline_any (ax ay : Option Addr) (n cx cy : Nat) (x y : Nat → Int) (s : Int) (w : World) (hn : n ≤ 1000) (px : PRow w ax n x) (py : PRow w ay n y) (vx : Nums x) (vy : Nums y) (s0 : 0 ≤ s) (s1 : s ≤ 18446744073709551615) :
    Calls Tryd.prog 37 #[.slice ax n cx, .slice ay n cy, .int .u64 s] w fun e w' => ∃ v, e = .returned v ∧ Own w' w.heap.size v n (linQ x y s) ∧ Below w.heap.size w w' := by
  obtain ⟨i0, hi, hz0, hz1, hz2⟩ := info_parts Tryd.infoO
  have HI := hid (And.intro hi (And.intro hz0 (And.intro hz1 hz2)))
  clear hi hz0 hz1 hz2
  have HPX := hid px
  have HPY := hid py
  have HV := hid (And.intro vx vy)
  clear px py vx vy
  go_enter Tryd.func37, Tryd.ntmps37
  go_wp2_with fail
  obtain ⟨E, hE⟩ : ∃ E, w.heap.size = E := ⟨_, rfl⟩
  have HEE := hid hE
  clear hE
  go_loopg [7, 8] n (fun q o i wr => ∃ (t : Nat) (v : Value), t ≤ n ∧ q = n - t ∧ o = v ∧ i = .int .i64 (t : Int) ∧ Hid (Own wr E v t (linQ x y s)) ∧ Hid (Below E w wr))
  case atStart => exact ⟨0, _, by omega, rfl, rfl, rfl, hid (Own.nil _ _ _), hid (Below.refl _ _)⟩
  case round =>
    obtain ⟨t, v, ht, rfl, hv, rfl, HO, HB⟩ := hrel
    obtain rfl := hv.symm
    have hs : E ≤ wr.heap.size := by have h1 := HB.out.size; have h2 := HEE.out; omega
    by_cases htl : t < n
    · have hbw : Below w.heap.size w wr := by rw [HEE.out]; exact HB.out
      obtain ⟨bx, ox, rfl, hrx⟩ := HPX.out (by omega)
      obtain ⟨by', oy, rfl, hry⟩ := HPY.out (by omega)
      have lx : bx < E := by rw [← HEE.out]; exact hrx.lt (by omega)
      have ly : by' < E := by rw [← HEE.out]; exact hry.lt (by omega)
      have cx1 := (hrx.kept HB.out lx) t htl
      have cy1 := (hry.kept HB.out ly) t htl
      obtain ⟨a, ha⟩ : ∃ a, x t = a := ⟨_, rfl⟩
      obtain ⟨d, hd⟩ : ∃ a, y t = a := ⟨_, rfl⟩
      obtain ⟨a0, a1⟩ := HV.out.1 t
      obtain ⟨d0, d1⟩ := HV.out.2 t
      rw [ha] at cx1 a0 a1
      rw [hd] at cy1 d0 d1
      obtain ⟨z, hz⟩ : ∃ z, addQ a (mulQ s (subQ d a)) = z := ⟨_, rfl⟩
      have HZ : Hid (linQ x y s t = z) := hid (by rw [linQ, ha, hd, hz])
      have HSU := hid (fun W => rsub_any d a W (by omega) (by omega) (by omega) (by omega))
      obtain ⟨q1, q2⟩ := subQ_rng d a
      obtain ⟨q3, q4⟩ := mulQ_rng s (subQ d a)
      have HAD := hid (fun W => radd_any a (mulQ s (subQ d a)) W (by omega) (by omega) (by omega) (by omega))
      have HMU := hid (fun W => rmul_any s (subQ d a) W (by omega) (by omega) (by omega) (by omega))
      rw [hz] at HAD
      clear ha hd hz hrx hry hbw
      have t0 : (0 : Int) ≤ (t : Int) := by omega
      have t1 : (t : Int) < (n : Int) := by omega
      have HNE : Hid (some bx ≠ v.ownBlock ∧ some by' ≠ v.ownBlock) := hid ⟨fun e => by have := (World.ownsRow.lt HO.out bx e.symm).1; omega, fun e => by have := (World.ownsRow.lt HO.out by' e.symm).1; omega⟩
      have sx : bx < wr.heap.size := by omega
      have sy : by' < wr.heap.size := by omega
      have HS4 := hid (And.intro cx1 cy1)
      have HK : Hid (∀ o, (wr.alloc o).cell? ⟨bx, ox + t, none⟩ = some (.int .u64 a) ∧ (wr.alloc o).cell? ⟨by', oy + t, none⟩ = some (.int .u64 d)) := hid fun o => ⟨by rw [World.cell?_alloc_old _ _ _ (Nat.ne_of_lt sx)]; exact HS4.out.1, by rw [World.cell?_alloc_old _ _ _ (Nat.ne_of_lt sy)]; exact HS4.out.2⟩
      go_wp2_with fail
      go_region_held3 (fun w' => w'.cell? ⟨bx, ox + t, none⟩ = some (.int .u64 a) ∧ w'.cell? ⟨by', oy + t, none⟩ = some (.int .u64 d)) (first | assumption | exact HS4.out | exact HK.out _ | exact hk3) (first
        | (go_at_call 79; refine (HSU.out _).mono ?_; rintro e w' ⟨rfl, hw⟩; obtain rfl := hw.symm)
        | (go_at_call 48; refine (HMU.out _).mono ?_; rintro e w' ⟨rfl, hw⟩; obtain rfl := hw.symm)
        | (go_at_call 34; refine (HAD.out _).mono ?_; rintro e w' ⟨rfl, hw⟩; obtain rfl := hw.symm)
        | (refine step_append_lies _ (by rfl) _ _ 25 (by rfl) E 45 i0 (.int .u64 0) 1 8 Tryd.underlying25 HI.out.1 HI.out.2.1 HI.out.2.2.1 HI.out.2.2.2 rfl (by decide) v t (cellsOf t (linQ x y s)) (by rfl) (World.ownsRow.alloc HO.out _) ⟨wr.heap.size, 0, none⟩ 1 1 [.int .u64 z] (by rfl) (by rfl) (vnews wr z _) (vone z) (by omega) (by unfold maxLen; omega) (by omega) (by simp; omega) (wr.heap.size + 1) (by simp) ?_; intro g2' c2' w6 hown2 hgrow2 hat2 hlt2; have hk3 : w6.cell? ⟨bx, ox + t, none⟩ = some (.int .u64 a) ∧ w6.cell? ⟨by', oy + t, none⟩ = some (.int .u64 d) := ⟨grown_cell hgrow2 HNE.out.1 sx HS4.out.1, grown_cell hgrow2 HNE.out.2 sy HS4.out.2⟩))
      have HS := hid (vsnoc HB.out hs HO.out hown2 (grown_undrew hgrow2) HZ.out)
      clear hown2 hgrow2 hat2 hlt2
      go_wp2_with fail
      go_roundg (n - (t + 1))
      case measure => go_light; omega
      case rel => exact ⟨t + 1, _, by omega, rfl, rfl, by go_num, hid HS.out.1, hid HS.out.2⟩
    · have e : t = n := by omega
      subst e
      go_wp2_with fail
      go_ret
      exact ⟨_, rfl, by rw [HEE.out]; exact HO.out, by rw [HEE.out]; exact HB.out⟩

end Go.Proofs.YtpkdkgpfjpalnaaDoor

/-
  A contract of tallyref's Shaped, for every proof and right circuits; it makes new blocks and writes nothing that was there.
-/
namespace Go.Proofs.YtpkdkgpfjpalnaaDoor
open Go.RowKit
set_option linter.unusedVariables false
attribute [local go_sem ↓] Go.wp_at_zero Go.wp_at_succ

/-- What holds of the world all along: the circuit's box, the proof's box, and that nothing was written. -/
structure StP (w W : World) (B : Nat) (g : Int) (v : Value) (Bp : Nat) (vp : Value) : Prop where
  st : StW w W B g v
  pc : W.cell? ⟨Bp, 0, none⟩ = some vp
theorem StP.next {w W W' : World} {B : Nat} {g : Int} {v : Value} {Bp : Nat} {vp : Value} (h : StP w W B g v Bp vp) (hb : Below W.heap.size W W') : StP w W' B g v Bp vp := ⟨h.st.next hb, (hb.cell (World.block_lt_of_cell? W _ h.pc)).trans h.pc⟩
theorem StP.start (w : World) (g : Int) (v vp : Value) (t t' : TypeId) : StP w ((w.alloc (.cells #[.int .i64 g, v] t)).alloc (.cells #[vp] t')) w.heap.size g v (w.heap.size + 1) vp := by
  have h1 := StW.start w g v t
  have hal := (Below.refl (w.alloc (.cells #[.int .i64 g, v] t)).heap.size (w.alloc (.cells #[.int .i64 g, v] t))).alloc (Nat.le_refl _) (.cells #[vp] t')
  refine ⟨h1.next hal, ?_⟩
  have e : (w.alloc (.cells #[.int .i64 g, v] t)).heap.size = w.heap.size + 1 := by simp
  rw [← e, World.cell?_alloc_new]; rfl
/-- Part j is as it must be. -/
def partOk (c : CQ) (p : PQ) (j : Nat) : Prop := p.rn j = 2 * (partsQ c).lg (j + 1) ∧ p.ln j = (partsQ c).lg (j + 1) + 1 ∧ ∀ i, i < p.rn j → p.rl j i = 3
theorem lg_next {c : CQ} {n t i bk : Nat} (hn : c.layers.length = n) (hi : i + t + 1 = n) (hb : belowQ c i = (bk : Int)) : (partsQ c).lg (t + 1) = bk := by
  show (belowQ c (c.layers.length - (t + 1))).toNat = bk
  rw [hn, show n - (t + 1) = i from by omega, hb, Int.toNat_natCast]


end Go.Proofs.YtpkdkgpfjpalnaaDoor

/-
  Contracts of tallyref's Wired and Step, of right things; they make new blocks and write nothing that was there.
-/
namespace Go.Proofs.YtpkdkgpfjpalnaaDoor
open Go.RowKit
set_option linter.unusedVariables false
attribute [local go_sem ↓] Go.wp_at_zero Go.wp_at_succ

theorem reqp_any (ao : Option Addr) (n cap : Nat) (g : Nat → Int) (at0 : Nat) (w : World) (hn : n ≤ 1000) (hp : PRow w ao n g) (hv : Nums g) (hat : at0 ≤ 100000) :
    Calls Tryd.prog 78 #[.slice ao n cap, .int .i64 (at0 : Int)] w fun e w' => e = .returned (.int .u64 (ofK (eqK (pK g) n at0))) ∧ w' = w := by
  by_cases h0 : n = 0
  · subst h0
    exact req_zero ao cap at0 w hat
  · obtain ⟨b, off, rfl, hr⟩ := hp (by omega)
    exact req_any b off n cap g at0 w hn hr hv hat

set_option maxHeartbeats 2000000 in
set_option maxRecDepth 100000 in
theorem rwired_ok (l : LQ) (g : Int) (b off n cap k : Nat) (ga : Option Addr) (gc : Nat) (mul : Bool) (az ax ay : Option Addr) (nz cz nx cx ny cy N M : Nat) (z x y : Nat → Int) (w : World) (hk : k < n) (n4 : n ≤ 4)
    (hN : N = 2 ^ nz) (N16 : N ≤ 16) (M16 : M ≤ 16) (z4 : nz ≤ 4) (x4 : nx ≤ 4) (hxy : ny = nx) (hlen : l.gates.length = N) (hgo : ∀ q ∈ l.gates, gateOk (M : Int) q)
    (hc : w.cell? ⟨b, off + 2 * k + 1, none⟩ = some (.slice ga N gc)) (hgr : GRow w ga l.gates)
    (pz : PRow w az nz z) (px : PRow w ax nx x) (py : PRow w ay ny y) (vz : Nums z) (vx : Nums x) (vy : Nums y) :
    Calls Tryd.prog 77 #[.agg #[.int .i64 g, .slice (some ⟨b, off, none⟩) n cap], .int .i64 (k : Int), .bool mul, .slice az nz cz, .slice ax nx cx, .slice ay ny cy] w fun e w' => e = .returned (.int .u64 (wirQ mul l.gates nz nx z x y)) ∧ Below w.heap.size w w' := by
  subst hxy
  rw [Nat.mul_comm 2 k] at hc
  have bl : b < w.heap.size := World.block_lt_of_cell? w _ hc
  have HC := hid (And.intro hc bl)
  have HGR := hid hgr
  have HLEN := hid hlen
  have HGO := hid hgo
  have HNN := hid hN
  have HPZ := hid pz
  have HPX := hid px
  have HPY := hid py
  have HV := hid (And.intro vz (And.intro vx vy))
  have k0 : (0 : Int) ≤ (k : Int) := by omega
  have k1 : (k : Int) < (n : Int) := by omega
  clear hc bl hgr hlen hgo hN pz px py vz vx vy
  go_enter Tryd.func77, Tryd.ntmps77
  go_wp2_with fail
  have HW0 := hid ((Below.refl w.heap.size w).alloc (Nat.le_refl _) (.cells #[.int .i64 g, .slice (some ⟨b, off, none⟩) n cap] 24))
  have HX0 := hid (Box2.new w (.int .i64 g) (.slice (some ⟨b, off, none⟩) n cap) 24)
  obtain ⟨B, hB⟩ : ∃ B, w.heap.size = B := ⟨_, rfl⟩
  rw [hB] at HX0 ⊢
  clear hB
  generalize w.alloc (.cells #[.int .i64 g, .slice (some ⟨b, off, none⟩) n cap] 24) = W0 at HW0 HX0 ⊢
  have HC0 := hid (Below.refl W0.heap.size W0)
  go_loopg [13, 14] N (fun q v i wr => ∃ (t : Nat) (p : Int), t ≤ N ∧ q = N - t ∧ v = .int .u64 p ∧ i = .int .i64 (t : Int) ∧ 0 ≤ p ∧ p ≤ 2305843009213693950 ∧ Hid (p = ofK (wirP mul l.gates nz ny z x y t)) ∧ Hid (Below W0.heap.size W0 wr))
  case atStart => exact ⟨0, 0, by omega, rfl, rfl, rfl, by omega, by omega, hid rfl, HC0⟩
  case round =>
    clear HC0
    obtain ⟨t, p, ht, rfl, rfl, rfl, p0, p1, HP, HBW⟩ := hrel
    obtain ⟨x0, x1, xl⟩ := HX0.out.kept HBW.out
    have HB3 := hid (HW0.out.trans (HBW.out.mono HW0.out.size))
    have y1 : wr.cell? ⟨b, off + k * 2 + 1, none⟩ = some (.slice ga N gc) := (HB3.out.cell HC.out.2).trans HC.out.1
    by_cases htl : t < N
    · obtain ⟨q, hq⟩ : ∃ q, l.gates[t]? = some q := ⟨l.gates[t]'(by rw [HLEN.out]; exact htl), by simp⟩
      obtain ⟨gb, go, rfl, hgc⟩ := HGR.out.kept HB3.out (by intro e; have := HLEN.out; rw [e] at this; simp at this; omega)
      obtain ⟨q0, q1, q2⟩ := hgc t q hq
      obtain ⟨⟨a0, a1⟩, b0, b1⟩ := HGO.out q (List.mem_of_getElem? hq)
      rw [Nat.mul_comm 3 t] at q0 q1 q2
      obtain ⟨qm, hqm⟩ : ∃ v, q.mul = v := ⟨_, rfl⟩
      obtain ⟨ia, hia⟩ : ∃ v : Nat, q.a = (v : Int) := ⟨q.a.toNat, by omega⟩
      obtain ⟨ib, hib⟩ : ∃ v : Nat, q.b = (v : Int) := ⟨q.b.toNat, by omega⟩
      rw [hqm] at q0
      rw [hia] at q1 a1
      rw [hib] at q2 b1
      have HQ := hid (And.intro hq (And.intro hqm (And.intro hia hib)))
      clear hgc hq hqm hia hib a0 b0
      have t0 : (0 : Int) ≤ (t : Int) := by omega
      have t1 : (t : Int) < (N : Int) := by omega
      have hal := (Below.refl wr.heap.size wr).alloc (Nat.le_refl _) (.cells #[.bool qm, .int .i64 (ia : Int), .int .i64 (ib : Int)] 67)
      have HBA := hid (HBW.out.trans (hal.mono HBW.out.size))
      by_cases hm : qm = mul
      · have em : (qm == mul) = true := by rw [hm]; simp
        obtain ⟨ez, hez⟩ : ∃ v, ofK (eqK (pK z) nz t) = v := ⟨_, rfl⟩
        obtain ⟨ex, hex⟩ : ∃ v, ofK (eqK (pK x) ny ia) = v := ⟨_, rfl⟩
        obtain ⟨ey, hey⟩ : ∃ v, ofK (eqK (pK y) ny ib) = v := ⟨_, rfl⟩
        have HQZ := hid (fun m => reqp_any az nz cz z t ((wr.alloc (.cells #[.bool qm, .int .i64 (ia : Int), .int .i64 (ib : Int)] 67)).drewN m) (by omega) (show PRow (wr.alloc (.cells #[.bool qm, .int .i64 (ia : Int), .int .i64 (ib : Int)] 67)) az nz z from (HPZ.out.kept HB3.out).kept hal) HV.out.1 (by omega))
        have HQX := hid (fun m => reqp_any ax ny cx x ia ((wr.alloc (.cells #[.bool qm, .int .i64 (ia : Int), .int .i64 (ib : Int)] 67)).drewN m) (by omega) (show PRow (wr.alloc (.cells #[.bool qm, .int .i64 (ia : Int), .int .i64 (ib : Int)] 67)) ax ny x from (HPX.out.kept HB3.out).kept hal) HV.out.2.1 (by omega))
        have HQY := hid (fun m => reqp_any ay ny cy y ib ((wr.alloc (.cells #[.bool qm, .int .i64 (ia : Int), .int .i64 (ib : Int)] 67)).drewN m) (by omega) (show PRow (wr.alloc (.cells #[.bool qm, .int .i64 (ia : Int), .int .i64 (ib : Int)] 67)) ay ny y from (HPY.out.kept HB3.out).kept hal) HV.out.2.2 (by omega))
        rw [hez] at HQZ
        rw [hex] at HQX
        rw [hey] at HQY
        have ez0 : 0 ≤ ez ∧ ez ≤ 18446744073709551615 := by rw [← hez]; exact ofK_u64 _
        have ex0 : 0 ≤ ex ∧ ex ≤ 18446744073709551615 := by rw [← hex]; exact ofK_u64 _
        have ey0 : 0 ≤ ey ∧ ey ≤ 18446744073709551615 := by rw [← hey]; exact ofK_u64 _
        have HNX := hid (wir_hit HQ.out.1 (HQ.out.2.1.trans hm) HQ.out.2.2.1 HQ.out.2.2.2 HP.out hez.symm hex.symm hey.symm).2
        clear hez hex hey hm
        obtain ⟨ez0, ez1⟩ := ez0
        obtain ⟨ex0, ex1⟩ := ex0
        obtain ⟨ey0, ey1⟩ := ey0
        obtain ⟨mw0, mw1⟩ := mulQ_rng ez ex
        obtain ⟨mv0, mv1⟩ := mulQ_rng (mulQ ez ex) ey
        obtain ⟨ma0, ma1⟩ := addQ_rng p (mulQ (mulQ ez ex) ey)
        clear hal
        go_wp2_with fail
        go_quiet (first | (go_at_call 48; exact Calls.quiet_of_same (rmul_any _ _ _ (by omega) (by omega) (by omega) (by omega))) | (go_at_call 34; exact Calls.quiet_of_same (radd_any _ _ _ (by omega) (by omega) (by omega) (by omega))) | (go_at_call 78; first | with_reducible exact Calls.quiet_of_same (HQZ.out _) | with_reducible exact Calls.quiet_of_same (HQX.out _) | with_reducible exact Calls.quiet_of_same (HQY.out _)))
        go_wp2_with fail
        go_roundg (N - (t + 1))
        case measure => go_light; omega
        case rel => exact ⟨t + 1, _, by omega, rfl, rfl, by go_num, ma0, ma1, HNX, hid ⟨HBA.out.os, HBA.out.tape, HBA.out.output, HBA.out.size, HBA.out.block⟩⟩
      · have em : (qm == mul) = false := by simp; exact hm
        have HNX := hid (wir_miss (l := nz) (k := ny) (z := z) (x := x) (y := y) HQ.out.1 (fun e => hm (HQ.out.2.1.symm.trans e)))
        go_wp2_with fail
        go_roundg (N - (t + 1))
        case measure => go_light; omega
        case rel => exact ⟨t + 1, p, by omega, rfl, rfl, by go_num, p0, p1, hid (by rw [HNX.out]; exact HP.out), HBA⟩
    · have e : t = N := by omega
      subst e
      go_wp2_with fail
      go_ret
      exact ⟨ret_u64 (by rw [HP.out, HNN.out]; rfl), HB3.out⟩

end Go.Proofs.YtpkdkgpfjpalnaaDoor

/-
  A contract of tallyref's Step, of right things; it makes new blocks and writes nothing that was there.
-/
namespace Go.Proofs.YtpkdkgpfjpalnaaDoor
open Go.RowKit
set_option linter.unusedVariables false
attribute [local go_sem ↓] Go.wp_at_zero Go.wp_at_succ

/-- Layer k is asked at three points: all is right. -/
structure Ask (w : World) (l : LQ) (b off n k : Nat) (ga : Option Addr) (gc : Nat) (az ax ay : Option Addr) (nz nx ny N M : Nat) (z x y : Nat → Int) : Prop where
  hk : k < n
  n4 : n ≤ 4
  hN : N = 2 ^ nz
  N16 : N ≤ 16
  M16 : M ≤ 16
  z4 : nz ≤ 4
  x4 : nx ≤ 4
  hxy : ny = nx
  hlen : l.gates.length = N
  hgo : ∀ q ∈ l.gates, gateOk (M : Int) q
  hc : w.cell? ⟨b, off + 2 * k + 1, none⟩ = some (.slice ga N gc)
  hgr : GRow w ga l.gates
  pz : PRow w az nz z
  px : PRow w ax nx x
  py : PRow w ay ny y
  vz : Nums z
  vx : Nums x
  vy : Nums y
theorem Ask.next {w w' : World} {l : LQ} {b off n k : Nat} {ga : Option Addr} {gc : Nat} {az ax ay : Option Addr} {nz nx ny N M : Nat} {z x y : Nat → Int} (h : Ask w l b off n k ga gc az ax ay nz nx ny N M z x y) (hb : Below w.heap.size w w') : Ask w' l b off n k ga gc az ax ay nz nx ny N M z x y :=
  { h with hc := (hb.cell (World.block_lt_of_cell? w _ h.hc)).trans h.hc, hgr := h.hgr.kept hb, pz := h.pz.kept hb, px := h.px.kept hb, py := h.py.kept hb }
theorem rwired_ask {w : World} {l : LQ} {b off n k : Nat} {ga : Option Addr} {gc : Nat} {az ax ay : Option Addr} {nz nx ny N M : Nat} {z x y : Nat → Int} (h : Ask w l b off n k ga gc az ax ay nz nx ny N M z x y) (g : Int) (cap : Nat) (mul : Bool) (cz cx cy : Nat) :
    Calls Tryd.prog 77 #[.agg #[.int .i64 g, .slice (some ⟨b, off, none⟩) n cap], .int .i64 (k : Int), .bool mul, .slice az nz cz, .slice ax nx cx, .slice ay ny cy] w fun e w' => e = .returned (.int .u64 (wirQ mul l.gates nz nx z x y)) ∧ Below w.heap.size w w' :=
  rwired_ok l g b off n cap k ga gc mul az ax ay nz cz nx cx ny cy N M z x y w h.hk h.n4 h.hN h.N16 h.M16 h.z4 h.x4 h.hxy h.hlen h.hgo h.hc h.hgr h.pz h.px h.py h.vz h.vx h.vy

set_option maxHeartbeats 2000000 in
set_option maxRecDepth 100000 in
theorem rstep_ask {w : World} {l : LQ} {b off n k : Nat} {ga : Option Addr} {gc : Nat} {az ax ay : Option Addr} {nz nx ny N M : Nat} {z x y : Nat → Int} (h : Ask w l b off n k ga gc az ax ay nz nx ny N M z x y) (g : Int) (cap : Nat) (cz cx cy : Nat) (ux uy : Int) (u0 : 0 ≤ ux) (u1 : ux ≤ 18446744073709551615) (u2 : 0 ≤ uy) (u3 : uy ≤ 18446744073709551615) :
    Calls Tryd.prog 35 #[.agg #[.int .i64 g, .slice (some ⟨b, off, none⟩) n cap], .int .i64 (k : Int), .slice az nz cz, .slice ax nx cx, .slice ay ny cy, .int .u64 ux, .int .u64 uy] w fun e w' => e = .returned (.int .u64 (wstQ l.gates nz nx z x y ux uy)) ∧ Below w.heap.size w w' := by
  have HA := hid h
  have HS0 := hid (StW.start w g (.slice (some ⟨b, off, none⟩) n cap) 24)
  clear h
  go_enter Tryd.func35, Tryd.ntmps35
  go_wp2_with fail
  obtain ⟨B, hB⟩ : ∃ B, w.heap.size = B := ⟨_, rfl⟩
  have HS1 : Hid (StW w (w.alloc (.cells #[.int .i64 g, .slice (some ⟨b, off, none⟩) n cap] 24)) B g (.slice (some ⟨b, off, none⟩) n cap)) := hid (by rw [← hB]; exact HS0.out)
  rw [hB]
  clear hB HS0
  generalize w.alloc (.cells #[.int .i64 g, .slice (some ⟨b, off, none⟩) n cap] 24) = W1 at HS1 ⊢
  obtain ⟨va, hva⟩ : ∃ v, wirQ false l.gates nz nx z x y = v := ⟨_, rfl⟩
  obtain ⟨vb, hvb⟩ : ∃ v, wirQ true l.gates nz nx z x y = v := ⟨_, rfl⟩
  have HWA := hid (fun W (h : Below w.heap.size w W) => rwired_ask (HA.out.next h) g cap false cz cx cy)
  have HWB := hid (fun W (h : Below w.heap.size w W) => rwired_ask (HA.out.next h) g cap true cz cx cy)
  obtain ⟨a0, a1⟩ := wirQ_rng false l.gates nz nx z x y
  obtain ⟨b0, b1⟩ := wirQ_rng true l.gates nz nx z x y
  have HST := hid (wst_of l.gates nz nx z x y ux uy)
  rw [hva] at HWA a0 a1
  rw [hvb] at HWB b0 b1
  rw [hva, hvb] at HST
  clear hva hvb
  obtain ⟨c0, c1⟩ := addQ_rng ux uy
  obtain ⟨d0, d1⟩ := mulQ_rng ux uy
  obtain ⟨e0, e1⟩ := mulQ_rng va (addQ ux uy)
  obtain ⟨f0, f1⟩ := mulQ_rng vb (mulQ ux uy)
  obtain ⟨z0, z1, zl⟩ := HS1.out.box
  have mark : Hid True := hid trivial
  go_region_held3 (fun W => W.cell? ⟨B, 0, none⟩ = some (.int .i64 g) ∧ W.cell? ⟨B, 1, none⟩ = some (.slice (some ⟨b, off, none⟩) n cap)) (first | assumption | exact ⟨z0, z1⟩ | exact zx | exact zy) (first
    | (go_at_call 34; refine (radd_any _ _ _ (by omega) (by omega) (by omega) (by omega)).mono ?_; rintro e w' ⟨rfl, hw⟩; obtain rfl := hw.symm)
    | (go_at_call 48; refine (rmul_any _ _ _ (by omega) (by omega) (by omega) (by omega)).mono ?_; rintro e w' ⟨rfl, hw⟩; obtain rfl := hw.symm)
    | (go_at_call 77; first | (clear mark; refine (HWA.out _ HS1.out.bel.drew).mono ?_; rintro e w2 ⟨rfl, hb⟩; have hbA : Below W1.heap.size W1 w2 := (Below.refl _ W1).drew.trans hb; have HSX := hid (HS1.out.next hbA); have zx : w2.cell? ⟨B, 0, none⟩ = some (.int .i64 g) ∧ w2.cell? ⟨B, 1, none⟩ = some (.slice (some ⟨b, off, none⟩) n cap) := ⟨HSX.out.box.c0, HSX.out.box.c1⟩; clear hb hbA) | (refine (HWB.out _ HSX.out.bel).mono ?_; rintro e w3 ⟨rfl, hb⟩; have HSY := hid (HSX.out.next hb); have zy : w3.cell? ⟨B, 0, none⟩ = some (.int .i64 g) ∧ w3.cell? ⟨B, 1, none⟩ = some (.slice (some ⟨b, off, none⟩) n cap) := ⟨HSY.out.box.c0, HSY.out.box.c1⟩; clear hb)))
  go_wp2_with fail
  go_ret
  exact ⟨ret_u64 HST.out, HSY.out.bel⟩

end Go.Proofs.YtpkdkgpfjpalnaaDoor

/-
  A contract of tallyref's Proof, of a right circuit, inputs and draws of the right lengths: it tells the right proof; nothing that was there is written.
-/
namespace Go.Proofs.YtpkdkgpfjpalnaaDoor
open Go.RowKit
set_option linter.unusedVariables false
attribute [local go_sem ↓] Go.wp_at_zero Go.wp_at_succ

/-- All that holds of the world from layer to layer. -/
structure PfS (w W : World) (X : Nat) (g : Int) (v vP : Value) (t : Nat) (p : PQ) (m : PM) : Prop where
  bel : Below w.heap.size w W
  hX : w.heap.size = X
  box : Box2 W X (.int .i64 g) v
  x6 : W.cell? ⟨X + 1, 0, none⟩ = some (.slice none 0 0)
  f6 : W.frozen? ⟨X + 1, 0, none⟩ = false
  x7 : W.cell? ⟨X + 1 + 1, 0, none⟩ = some vP
  f7 : W.frozen? ⟨X + 1 + 1, 0, none⟩ = false
  lo : X + 1 + 1 < W.heap.size
  parts : PartsS W (X + 1 + 1 + 1) vP t p m
theorem PfS.next {w W W' : World} {X : Nat} {g : Int} {v vP : Value} {t : Nat} {p : PQ} {m : PM} (h : PfS w W X g v vP t p m) (hb : Below W.heap.size W W') : PfS w W' X g v vP t p m := by
  have l6 := World.block_lt_of_cell? W _ h.x6
  have l7 := World.block_lt_of_cell? W _ h.x7
  exact ⟨h.bel.trans (hb.mono h.bel.size), h.hX, h.box.kept hb, (hb.cell l6).trans h.x6, (hb.frozen l6).trans h.f6, (hb.cell l7).trans h.x7, (hb.frozen l7).trans h.f7, Nat.lt_of_lt_of_le h.lo hb.size, h.parts.keep (Kp.of hb)⟩
theorem PfS.start (w : World) (g : Int) (v : Value) (t0 t1 t2 : TypeId) (p : PQ) (m : PM) : PfS w (((w.alloc (.cells #[.int .i64 g, v] t0)).alloc (.cells #[.slice none 0 0] t1)).alloc (.cells #[.slice none 0 0] t2)) w.heap.size g v (.slice none 0 0) 0 p m := by
  have b0 := nbel w (.cells #[.int .i64 g, v] t0)
  have h0 := Box2.new w (.int .i64 g) v t0
  have e0 : (w.alloc (.cells #[.int .i64 g, v] t0)).heap.size = w.heap.size + 1 := by simp
  generalize w.alloc (.cells #[.int .i64 g, v] t0) = W0 at b0 h0 e0 ⊢
  have b1 := nbel W0 (.cells #[.slice none 0 0] t1)
  have c1 : (W0.alloc (.cells #[.slice none 0 0] t1)).cell? ⟨W0.heap.size, 0, none⟩ = some (.slice none 0 0) := by rw [World.cell?_alloc_new]; rfl
  have f1 : (W0.alloc (.cells #[.slice none 0 0] t1)).frozen? ⟨W0.heap.size, 0, none⟩ = false := World.frozen?_alloc_new _ _ _ _
  have e1 : (W0.alloc (.cells #[.slice none 0 0] t1)).heap.size = w.heap.size + 1 + 1 := by simp; omega
  generalize W0.alloc (.cells #[.slice none 0 0] t1) = W1 at b1 c1 f1 e1 ⊢
  have b2 := nbel W1 (.cells #[.slice none 0 0] t2)
  have c2 : (W1.alloc (.cells #[.slice none 0 0] t2)).cell? ⟨W1.heap.size, 0, none⟩ = some (.slice none 0 0) := by rw [World.cell?_alloc_new]; rfl
  have f2 : (W1.alloc (.cells #[.slice none 0 0] t2)).frozen? ⟨W1.heap.size, 0, none⟩ = false := World.frozen?_alloc_new _ _ _ _
  rw [e1] at c2 f2
  rw [e0] at c1 f1
  have l1 := World.block_lt_of_cell? W1 _ c1
  exact ⟨b0.trans ((b1.trans (b2.mono b1.size)).mono b0.size), rfl, (h0.kept b1).kept b2, (b2.cell l1).trans c1, (b2.frozen l1).trans f1, c2, f2, by simp; omega, PartsS.nil _ _ _ _⟩
theorem own_some {w : World} {base : Nat} {v : Value} {n : Nat} {f : Nat → Int} (h : Own w base v n f) (hn : 0 < n) : ∃ b c, v = .slice (some ⟨b, 0, none⟩) n c ∧ n ≤ c ∧ Row w b 0 n f ∧ base ≤ b ∧ b < w.heap.size := by
  have hl := h
  rcases h.2 with ⟨_, h0⟩ | ⟨b, cap, cur, rfl, hb, hh, hle, _⟩
  · omega
  · obtain ⟨ao, c, e, hp, _⟩ := hl.is
    obtain ⟨b2, o2, e2, hr⟩ := hp hn
    cases e
    cases e2
    exact ⟨b, cap, rfl, hle, hr, hb, (Array.getElem?_eq_some_iff.1 hh).1⟩
theorem joined_xy {W : World} (B : Nat) (ad av ab : Option Addr) (j m' k2 c0 c1 c2 : Nat) (d : Nat → Int) (v bb : Nat) (h0 : W.cell? ⟨B, 0, none⟩ = some (.slice ad j c0)) (h1 : W.cell? ⟨B, 1, none⟩ = some (.slice av 1 c1)) (h2 : W.cell? ⟨B, 2, none⟩ = some (.slice ab m' c2)) (p0 : PRow W ad j d) (p1 : PRow W av 1 (fun _ => (v : Int))) (p2 : PRow W ab m' (bitF bb m')) (hk : j + 1 + m' = k2) (hk8 : k2 ≤ 8) :
    Calls Tryd.prog 32 #[.slice (some ⟨B, 0, none⟩) 3 3] W fun e w' => ∃ bj cj, e = .returned (.slice (some ⟨bj, 0, none⟩) k2 cj) ∧ k2 ≤ cj ∧ Row w' bj 0 k2 (xyF d j v m' bb) ∧ Below W.heap.size W w' := by
  refine (joined_three B 3 ad av ab j c0 1 c1 m' c2 d (fun _ => (v : Int)) (bitF bb m') W h0 h1 h2 p0 p1 p2 (by omega) (by omega) (by omega)).mono ?_
  rintro e w' ⟨vj, rfl, ho, hb⟩
  rw [hk] at ho
  obtain ⟨bj, cj, rfl, hle, hr, _, _⟩ := own_some ho (by omega)
  exact ⟨bj, cj, rfl, hle, hr, hb⟩
theorem one_num (w : World) (x : Int) (t : TypeId) : PRow (w.alloc (.cells #[.int .u64 x] t)) (some ⟨w.heap.size, 0, none⟩) 1 (fun _ => x) := PRow.of fun j hj => by
  rw [Nat.zero_add, World.cell?_alloc_new]
  match j, hj with
  | 0, _ => rfl
theorem three_cells (W : World) (x y z : Value) (t : TypeId) : (W.alloc (.cells #[x, y, z] t)).cell? ⟨W.heap.size, 0, none⟩ = some x ∧ (W.alloc (.cells #[x, y, z] t)).cell? ⟨W.heap.size, 1, none⟩ = some y ∧ (W.alloc (.cells #[x, y, z] t)).cell? ⟨W.heap.size, 2, none⟩ = some z :=
  ⟨by rw [World.cell?_alloc_new]; rfl, by rw [World.cell?_alloc_new]; rfl, by rw [World.cell?_alloc_new]; rfl⟩
theorem corn_joinA {wr w5 : World} {t t2 : TypeId} {ad ab : Option Addr} {j m' k2 c0 cb : Nat} {d : Nat → Int} {v bb : Nat} (hpd : PRow wr ad j d) (hb : Below (wr.alloc (.cells #[.int .u64 (v : Int)] t)).drew.heap.size (wr.alloc (.cells #[.int .u64 (v : Int)] t)).drew w5) (hpb : PRow w5 ab m' (bitF bb m')) (hk : j + 1 + m' = k2) (hk8 : k2 ≤ 8) :
    Calls Tryd.prog 32 #[.slice (some ⟨w5.heap.size, 0, none⟩) 3 3] (w5.alloc (.cells #[.slice ad j c0, .slice (some ⟨wr.heap.size, 0, none⟩) 1 1, .slice ab m' cb] t2)) fun e w' => ∃ bj cj, e = .returned (.slice (some ⟨bj, 0, none⟩) k2 cj) ∧ k2 ≤ cj ∧ Row w' bj 0 k2 (xyF d j v m' bb) ∧ Below wr.heap.size wr w' := by
  have b0 := nbel wr (.cells #[.int .u64 (v : Int)] t)
  have p1 := one_num wr (v : Int) t
  have b1 : Below wr.heap.size wr w5 := b0.drew.trans (hb.mono b0.drew.size)
  have p5 : PRow w5 (some ⟨wr.heap.size, 0, none⟩) 1 (fun _ => (v : Int)) := (p1.kept (Below.refl _ _).drew).kept hb
  have b2 := nbel w5 (.cells #[.slice ad j c0, .slice (some ⟨wr.heap.size, 0, none⟩) 1 1, .slice ab m' cb] t2)
  obtain ⟨h0, h1, h2⟩ := three_cells w5 (.slice ad j c0) (.slice (some ⟨wr.heap.size, 0, none⟩) 1 1) (.slice ab m' cb) t2
  refine (joined_xy w5.heap.size ad (some ⟨wr.heap.size, 0, none⟩) ab j m' k2 c0 1 cb d v bb h0 h1 h2 ((hpd.kept b1).kept b2) (p5.kept b2) (hpb.kept b2) hk hk8).mono ?_
  rintro e w' ⟨bj, cj, he, hc, hr, hb3⟩
  have b3 := b1.trans (b2.mono b1.size)
  exact ⟨bj, cj, he, hc, hr, b3.trans (hb3.mono b3.size)⟩
theorem corn_joinB {wr w5 : World} {t t2 : TypeId} {ad ab : Option Addr} {j m' k2 c0 cb : Nat} {d : Nat → Int} {v bb : Nat} (hpd : PRow wr ad j d) (hb : Below wr.drew.heap.size wr.drew w5) (hpb : PRow w5 ab m' (bitF bb m')) (hk : j + 1 + m' = k2) (hk8 : k2 ≤ 8) :
    Calls Tryd.prog 32 #[.slice (some ⟨w5.heap.size + 1, 0, none⟩) 3 3] ((w5.alloc (.cells #[.int .u64 (v : Int)] t)).alloc (.cells #[.slice ad j c0, .slice (some ⟨w5.heap.size, 0, none⟩) 1 1, .slice ab m' cb] t2)) fun e w' => ∃ bj cj, e = .returned (.slice (some ⟨bj, 0, none⟩) k2 cj) ∧ k2 ≤ cj ∧ Row w' bj 0 k2 (xyF d j v m' bb) ∧ Below wr.heap.size wr w' := by
  have b1 : Below wr.heap.size wr w5 := (Below.refl _ wr).drew.trans hb
  have b0 := nbel w5 (.cells #[.int .u64 (v : Int)] t)
  have p1 := one_num w5 (v : Int) t
  have es : (w5.alloc (.cells #[.int .u64 (v : Int)] t)).heap.size = w5.heap.size + 1 := by simp
  generalize w5.alloc (.cells #[.int .u64 (v : Int)] t) = W6 at b0 p1 es ⊢
  rw [← es]
  have b2 := nbel W6 (.cells #[.slice ad j c0, .slice (some ⟨w5.heap.size, 0, none⟩) 1 1, .slice ab m' cb] t2)
  obtain ⟨h0, h1, h2⟩ := three_cells W6 (.slice ad j c0) (.slice (some ⟨w5.heap.size, 0, none⟩) 1 1) (.slice ab m' cb) t2
  refine (joined_xy W6.heap.size ad (some ⟨w5.heap.size, 0, none⟩) ab j m' k2 c0 1 cb d v bb h0 h1 h2 (((hpd.kept b1).kept b0).kept b2) (p1.kept b2) ((hpb.kept b0).kept b2) hk hk8).mono ?_
  rintro e w' ⟨bj, cj, he, hc, hr, hb3⟩
  have b3 := b1.trans ((b0.trans (b2.mono b0.size)).mono b1.size)
  exact ⟨bj, cj, he, hc, hr, b3.trans (hb3.mono b3.size)⟩
/-- A part's box, while its rounds are told. -/
structure RnQ (w3 W : World) (Y : Nat) (vR : Value) (j : Nat) (A : Nat → Option Addr) (C : Nat → Nat) (F : Nat → Nat → Int) : Prop where
  bel : Below w3.heap.size w3 W
  hY : w3.heap.size = Y
  lt : Y + 1 ≤ W.heap.size
  c0 : W.cell? ⟨Y, 0, none⟩ = some vR
  f0 : W.frozen? ⟨Y, 0, none⟩ = false
  c1 : W.cell? ⟨Y, 1, none⟩ = some (.slice none 0 0)
  f1 : W.frozen? ⟨Y, 1, none⟩ = false
  rs : RndS W (Y + 1) vR j A (fun _ => 3) C F
theorem RnQ.next {w3 W W' : World} {Y : Nat} {vR : Value} {j : Nat} {A : Nat → Option Addr} {C : Nat → Nat} {F : Nat → Nat → Int} (h : RnQ w3 W Y vR j A C F) (hb : Below W.heap.size W W') : RnQ w3 W' Y vR j A C F := by
  have l := World.block_lt_of_cell? W _ h.c0
  have l1 := World.block_lt_of_cell? W _ h.c1
  exact ⟨h.bel.trans (hb.mono h.bel.size), h.hY, Nat.le_trans h.lt hb.size, (hb.cell l).trans h.c0, (hb.frozen l).trans h.f0, (hb.cell l1).trans h.c1, (hb.frozen l1).trans h.f1, h.rs.keep (Kp.of hb)⟩
theorem RnQ.start (w3 : World) (t : TypeId) (A : Nat → Option Addr) (C : Nat → Nat) (F : Nat → Nat → Int) : RnQ w3 (w3.alloc (.cells #[.slice none 0 0, .slice none 0 0] t)) w3.heap.size (.slice none 0 0) 0 A C F :=
  ⟨nbel _ _, rfl, by simp, by rw [World.cell?_alloc_new]; rfl, World.frozen?_alloc_new _ _ _ _, by rw [World.cell?_alloc_new]; rfl, World.frozen?_alloc_new _ _ _ _, ⟨OwnV.nil _ _ _ _ _ _, fun i hi => absurd hi (by omega)⟩⟩

theorem grown_at {W W' : World} {o : Option Nat} (hg : W.grownBy W' o) {a : Addr} {v : Value} (h : W.cell? a = some v) (hn : o ≠ some a.block) : W'.cell? a = some v ∧ W'.frozen? a = W.frozen? a := by
  have hb := hg.block a.block (World.block_lt_of_cell? W _ h) (fun e => hn e.symm)
  exact ⟨(World.cell?_of_block hb).trans h, by unfold World.frozen?; rw [hb]⟩
theorem RndS.same {W : World} {base : Nat} {v : Value} {n : Nat} {A : Nat → Option Addr} {L L' C : Nat → Nat} {F F' : Nat → Nat → Int} (h : RndS W base v n A L C F) (eL : ∀ i, i < n → L i = L' i) (eF : ∀ i j, i < n → j < L i → F i j = F' i j) : RndS W base v n A L' C F' :=
  ⟨h.ov.congr (fun _ _ => rfl) eL (fun _ _ => rfl) eF, h.lo⟩
/-- One round more. -/
theorem RnQ.put {w3 wr w6 : World} {Y : Nat} {vR : Value} {j : Nat} {AR : Nat → Option Addr} {CR : Nat → Nat} {F : Nat → Nat → Int} {g c6 bu cu : Nat} {ob : Obj} (h : RnQ w3 wr Y vR j AR CR F)
    (ho : w6.ownsRow (Y + 1) 25 1 (.slice (some ⟨g, 0, none⟩) (j + 1) c6) (j + 1) (slv j AR (fun _ => 3) CR ++ [.slice (some ⟨bu, 0, none⟩) 3 cu])) (hg : (wr.alloc ob).grownBy w6 vR.ownBlock) (hat : vR.ownBlock = some g ∨ g = wr.heap.size + 1)
    (hbu : Y + 1 ≤ bu ∧ bu < wr.heap.size ∧ vR.ownBlock ≠ some bu) (hr : Row wr bu 0 3 (F j)) :
    (w6.cell? ⟨Y, 0, none⟩ = some vR ∧ w6.frozen? ⟨Y, 0, none⟩ = false) ∧ RnQ w3 (w6.setCell ⟨Y, 0, none⟩ (.slice (some ⟨g, 0, none⟩) (j + 1) c6)) Y (.slice (some ⟨g, 0, none⟩) (j + 1) c6) (j + 1) (putO AR j (some ⟨bu, 0, none⟩)) (putA CR j cu) F := by
  have b0 := nbel wr ob
  have h1 := h.next b0
  have hs : (wr.alloc ob).heap.size = wr.heap.size + 1 := by simp
  have hr1 := hr.kept b0 hbu.2.1
  have hlow : ∀ k, vR.ownBlock = some k → Y + 1 ≤ k := fun k hk => (World.ownsRow.lt h.rs.ov.own k hk).1
  have hne : vR.ownBlock ≠ some Y := fun e => by have := hlow Y e; omega
  obtain ⟨c0, f0⟩ := grown_at hg h1.c0 hne
  obtain ⟨c1, f1⟩ := grown_at hg h1.c1 hne
  rw [h1.f0] at f0
  rw [h1.f1] at f1
  refine ⟨⟨c0, f0⟩, ?_⟩
  have hb6 : Below w3.heap.size w3 w6 := h1.bel.grown hg (by have := h1.bel.size; omega) (fun k hk => by have := hlow k hk; have := h.hY; omega)
  have rs6 := h1.rs.next ho hg (by rw [hs]; exact hat) (by rw [hs]; omega) hbu.1 hbu.2.2 hr1
  have rs7 : RndS w6 (Y + 1) (.slice (some ⟨g, 0, none⟩) (j + 1) c6) (j + 1) (putO AR j (some ⟨bu, 0, none⟩)) (fun _ => 3) (putA CR j cu) F := rs6.same (fun i hi => by unfold putA; by_cases e : i = j; rw [if_pos e]; rw [if_neg e]) (fun i q hi hq => by
    unfold putF
    by_cases e : i = j
    · rw [if_pos e, e]
    · rw [if_neg e])
  refine ⟨hb6.trans (((ButS.refl (fun c => c = Y) w6).set (b := Y) (q := 0) rfl _).below (fun k hk => by rw [show k = Y from hk, h.hY]; exact Nat.le_refl _) hb6.size), h.hY, by rw [World.size_setCell]; exact Nat.le_trans (Nat.le_trans h.lt b0.size) hg.size, World.cell?_setCell_same _ _ _ c0, by rw [World.frozen?_setCell]; exact f0, (World.cell?_setCell_other _ _ _ _ (by intro e; simp only [Addr.mk.injEq] at e; omega)).trans c1, by rw [World.frozen?_setCell]; exact f1, rs7.keep (Kp.set _ _ _ (by omega))⟩

/-- A part's box, while its line is told. -/
structure LnQ (L0 W : World) (Y : Nat) (vR vL : Value) (s : Nat) (F : Nat → Int) : Prop where
  but : ButS (fun c => c = Y) L0 W
  lt : Y < L0.heap.size
  c0 : W.cell? ⟨Y, 0, none⟩ = some vR
  c1 : W.cell? ⟨Y, 1, none⟩ = some vL
  f1 : W.frozen? ⟨Y, 1, none⟩ = false
  own : Own W L0.heap.size vL s F
theorem LnQ.next {L0 W W' : World} {Y : Nat} {vR vL : Value} {s : Nat} {F : Nat → Int} (h : LnQ L0 W Y vR vL s F) (hb : Below W.heap.size W W') : LnQ L0 W' Y vR vL s F :=
  ⟨h.but.trans (ButS.of hb), h.lt, nkeep hb h.c0, nkeep hb h.c1, (hb.frozen (World.block_lt_of_cell? W _ h.c1)).trans h.f1, h.own.kept hb⟩
theorem LnQ.kp {L0 W : World} {Y : Nat} {vR vL : Value} {s : Nat} {F : Nat → Int} (h : LnQ L0 W Y vR vL s F) : Kp (Y + 1) L0 W := ⟨h.but.size, fun b hb hl => h.but.block b hl (fun e => by have e : b = Y := e; omega)⟩
theorem LnQ.bel {w3 L0 W : World} {Y : Nat} {vR vL : Value} {s : Nat} {F : Nat → Int} (h : LnQ L0 W Y vR vL s F) (hb : Below w3.heap.size w3 L0) (hY : w3.heap.size = Y) : Below w3.heap.size w3 W :=
  hb.trans (h.but.below (fun k hk => by rw [show k = Y from hk, hY]; exact Nat.le_refl _) hb.size)
theorem LnQ.put {L0 wr w6 : World} {Y : Nat} {vR vL : Value} {s : Nat} {F : Nat → Int} {g c6 : Nat} {x : Int} {t : TypeId} (h : LnQ L0 wr Y vR vL s F)
    (ho : w6.ownsRow L0.heap.size 45 1 (.slice (some ⟨g, 0, none⟩) (s + 1) c6) (s + 1) (cellsOf s F ++ [.int .u64 x])) (hg : (wr.alloc (.cells #[.int .u64 x] t)).grownBy w6 vL.ownBlock) (hx : x = F s) :
    (w6.cell? ⟨Y, 1, none⟩ = some vL ∧ w6.frozen? ⟨Y, 1, none⟩ = false) ∧ LnQ L0 (w6.setCell ⟨Y, 1, none⟩ (.slice (some ⟨g, 0, none⟩) (s + 1) c6)) Y vR (.slice (some ⟨g, 0, none⟩) (s + 1) c6) (s + 1) F := by
  have b0 := nbel wr (.cells #[.int .u64 x] t)
  have h1 := h.next b0
  have hlow : ∀ k, vL.ownBlock = some k → L0.heap.size ≤ k := fun k hk => (World.ownsRow.lt h.own k hk).1
  have hne : vL.ownBlock ≠ some Y := fun e => by have := hlow Y e; have := h.lt; omega
  obtain ⟨c0, _⟩ := grown_at hg h1.c0 hne
  obtain ⟨c1, f1⟩ := grown_at hg h1.c1 hne
  rw [h1.f1] at f1
  have hb6 : ButS (fun c => c = Y) L0 w6 := ⟨hg.os.trans h1.but.os, hg.tape.trans h1.but.tape, hg.output.trans h1.but.output, Nat.le_trans h1.but.size hg.size, fun k hk hn => (hg.block k (Nat.lt_of_lt_of_le hk h1.but.size) (fun e => by have := hlow k e.symm; omega)).trans (h1.but.block k hk hn)⟩
  have ho6 : Own w6 L0.heap.size (.slice (some ⟨g, 0, none⟩) (s + 1) c6) (s + 1) F := by
    rw [cellsOf_snoc] at ho
    exact Own.congr ho fun j hj => by
      unfold catF
      by_cases e : j < s
      · rw [if_pos e]
      · rw [if_neg e, show j = s from by omega]; exact hx
  exact ⟨⟨c1, f1⟩, hb6.set rfl _, h.lt, (World.cell?_setCell_other _ _ _ _ (by intro e; simp only [Addr.mk.injEq] at e; omega)).trans c0, World.cell?_setCell_same _ _ _ c1, by rw [World.frozen?_setCell]; exact f1, (Kp.set L0.heap.size w6 _ h.lt).owns ho6⟩
theorem PfS.put {w W w6 : World} {X : Nat} {g : Int} {v vP : Value} {t : Nat} {p : PQ} {m : PM} {g6 c6 rc lc : Nat} {ra la : Option Addr} {A : Nat → Option Addr} {C : Nat → Nat} {ob : Obj} (h : PfS w W X g v vP t p m)
    (ho : w6.ownsRow (X + 1 + 1 + 1) 77 2 (.slice (some ⟨g6, 0, none⟩) (t + 1) c6) (t + 1) (pcsV (raV m p) (laV m p) t ++ [.slice ra (p.rn t) rc, .slice la (p.ln t) lc])) (hg : (W.alloc ob).grownBy w6 vP.ownBlock) (hat : vP.ownBlock = some g6 ∨ g6 = W.heap.size + 1)
    (hr : PartR W p (m.put t ra la rc lc A C) t) (hf : PartA (fun b => X + 1 + 1 + 1 ≤ b ∧ b < W.heap.size ∧ vP.ownBlock ≠ some b) p (m.put t ra la rc lc A C) t) :
    (w6.cell? ⟨X + 1 + 1, 0, none⟩ = some vP ∧ w6.frozen? ⟨X + 1 + 1, 0, none⟩ = false) ∧ PfS w (w6.setCell ⟨X + 1 + 1, 0, none⟩ (.slice (some ⟨g6, 0, none⟩) (t + 1) c6)) X g v (.slice (some ⟨g6, 0, none⟩) (t + 1) c6) (t + 1) p (m.put t ra la rc lc A C) := by
  have b0 := nbel W ob
  have h1 := h.next b0
  have hs : (W.alloc ob).heap.size = W.heap.size + 1 := by simp
  have hlow : ∀ k, vP.ownBlock = some k → X + 1 + 1 + 1 ≤ k := fun k hk => (World.ownsRow.lt h.parts.own k hk).1
  have ne7 : vP.ownBlock ≠ some (X + 1 + 1) := fun e => by have := hlow _ e; omega
  have ne6 : vP.ownBlock ≠ some (X + 1) := fun e => by have := hlow _ e; omega
  have ne3 : vP.ownBlock ≠ some X := fun e => by have := hlow _ e; omega
  obtain ⟨c7, f7⟩ := grown_at hg h1.x7 ne7
  obtain ⟨c6', f6'⟩ := grown_at hg h1.x6 ne6
  obtain ⟨d0, _⟩ := grown_at hg h1.box.c0 ne3
  obtain ⟨d1, _⟩ := grown_at hg h1.box.c1 ne3
  rw [h1.f7] at f7
  rw [h1.f6] at f6'
  have hr1 : PartR (W.alloc ob) p (m.put t ra la rc lc A C) t := hr.keep hf (fun b hb => b0.block b hb.2.1)
  have hf1 : PartA (fun b => X + 1 + 1 + 1 ≤ b ∧ b < (W.alloc ob).heap.size ∧ vP.ownBlock ≠ some b) p (m.put t ra la rc lc A C) t := hf.mono fun b hb => ⟨hb.1, by rw [hs]; omega, hb.2.2⟩
  have ps := h1.parts.next ho hg (by rw [hs]; exact hat) hr1 hf1
  have hb6 : Below w.heap.size w w6 := h1.bel.grown hg h1.bel.size (fun k hk => by have := hlow k hk; have := h.hX; omega)
  have l3 := World.block_lt_of_cell? w6 _ d0
  have of : ∀ q, q ≠ X + 1 + 1 → ∀ j z, (w6.setCell ⟨X + 1 + 1, 0, none⟩ z).cell? ⟨q, j, none⟩ = w6.cell? ⟨q, j, none⟩ := fun q hq j z => World.cell?_setCell_other _ _ _ _ (by intro e; simp only [Addr.mk.injEq] at e; omega)
  refine ⟨⟨c7, f7⟩, hb6.trans (((ButS.refl (fun c => c = X + 1 + 1) w6).set (b := X + 1 + 1) (q := 0) rfl _).below (fun k hk => by rw [show k = X + 1 + 1 from hk, h.hX]; omega) hb6.size), h.hX, ⟨(of X (by omega) 0 _).trans d0, (of X (by omega) 1 _).trans d1, by rw [World.size_setCell]; exact l3⟩, (of (X + 1) (by omega) 0 _).trans c6', by rw [World.frozen?_setCell]; exact f6', World.cell?_setCell_same _ _ _ c7, by rw [World.frozen?_setCell]; exact f7, by rw [World.size_setCell]; exact Nat.lt_of_lt_of_le h1.lo hg.size, ps.keep (Kp.set _ _ _ (by omega))⟩
theorem results_one {fn : Func} {p : Tmp} {ty : TypeId} (h : fn.results = #[.cell p ty]) (tmps : Array Value) (P : Program) (w : World) :
    (results fn tmps).run P w = ((asAddr (tmps.getD p undef)).run P w).andThen fun a w₁ => (loadVar ty a).run P w₁ := by
  simp only [results, h]
  simp [Sem.run_bind, Result.andThen]
theorem results_prf1 {fn : Func} {p : Tmp} (h : fn.results = #[.cell p 33]) {tmps : Array Value} {w : World} {b : Nat} {x0 : Value} (hp : tmps.getD p undef = .pointer (some ⟨b, 0, none⟩)) (c0 : w.cell? ⟨b, 0, none⟩ = some x0) :
    (results fn tmps).run Tryd.prog w = .ok (.agg #[x0]) w := by
  rw [results_one h, hp]
  simp [asAddr, Result.andThen, load_prf c0]

theorem PfRow.keepS {w w' : World} {ao : Option Addr} {p : PQ} {m : PM} {S : Nat → Prop} (h : PfRow w ao p m) (ha : ∀ a, ao = some a → S a.block) (hp : ∀ j, j < p.n → PartA S p m j) (hk : ∀ b, S b → w'.heap[b]? = w.heap[b]?) : PfRow w' ao p m := fun h0 => by
  obtain ⟨b, off, e, hr⟩ := h h0
  refine ⟨b, off, e, fun j hj => ?_⟩
  obtain ⟨h1, h2, h3, h4⟩ := hr j hj
  have h5 := PartR.keep (W := w) (W' := w') ⟨h3, h4⟩ (hp j hj) hk
  exact ⟨(World.cell?_of_block (hk b (ha _ e))).trans h1, (World.cell?_of_block (hk b (ha _ e))).trans h2, h5.1, h5.2⟩
/-- What Proof tells of right things. -/
def prfOut (c : CQ) (f D : Nat → Int) (n : Nat) (w : World) (e : Ending) (w' : World) : Prop := ∃ (ao : Option Addr) (cap : Nat) (m : PM), e = .returned (.agg #[.slice ao n cap]) ∧ PfRow w' ao (rightP c f D) m ∧ ((∀ a, ao = some a → w.heap.size ≤ a.block) ∧ ∀ j, j < n → PartA (fun q => w.heap.size ≤ q) (rightP c f D) m j) ∧ Below w.heap.size w w'
set_option maxHeartbeats 16000000 in
set_option maxRecDepth 100000 in
theorem rproof_any (c : CQ) (g : Int) (b off n cap : Nat) (A : Nat → Option Addr) (C : Nat → Nat) (bi oi N ci : Nat) (f : Nat → Int) (bd od nd cd : Nat) (D : Nat → Int) (w : World)
    (hg : c.log = g) (hn : c.layers.length = n) (hr : CRow w (some ⟨b, off, none⟩) c.layers A C) (hc : c.right) (hN : lenQ c 0 = N) (hi : Row w bi oi N f) (vi : Nums f) (hd : Row w bd od nd D) (vd : Nums D) (hnd : nd = needQ c) (hcd : nd ≤ cd) (hcm : cd ≤ maxLen) :
    Calls Tryd.prog 11 #[.agg #[.int .i64 g, .slice (some ⟨b, off, none⟩) n cap], .slice (some ⟨bi, oi, none⟩) N ci, .slice (some ⟨bd, od, none⟩) nd cd] w fun e w' => prfOut c f D n w e w' := by
  have n4 : n ≤ 4 := by have := hc.few; omega
  have n1 : 1 ≤ n := by have := List.length_pos_iff.2 hc.some; omega
  have nd40 : nd ≤ 40 := by rw [hnd]; exact needQ_le hc
  obtain ⟨last, rfl⟩ : ∃ m, n = m + 1 := ⟨n - 1, by omega⟩
  obtain ⟨l0, hl0, hz0, _, _, _⟩ := parts_layer hc (j := 0) (by omega)
  rw [hn, show last + 1 - 1 - 0 = last from by omega] at hl0
  obtain ⟨lk0, hlk0⟩ : ∃ x, (partsQ c).lg 0 = x := ⟨_, rfl⟩
  have lk4 : lk0 ≤ 4 := by rw [← hlk0]; exact parts_lg hc 0
  have hlog0 : l0.log = (lk0 : Int) := by rw [← hlk0, hz0]; have := (hc.layer last l0 hl0).1; omega
  have hat0 : lk0 ≤ nd := by rw [hnd, ← hlk0]; exact Nat.le_trans (at_mono (partsQ c) (Nat.zero_le c.layers.length)) (Nat.le_refl _)
  have HR := hid hr
  have HG := hid hg
  have HN := hid hn
  have HC := hid hc
  have HI := hid hi
  have HVI := hid vi
  have HNI := hid hN
  have HD := hid hd
  have HVD := hid vd
  have HND := hid hnd
  have HLK := hid hlk0
  obtain ⟨i0, hi0, hz0', hz1', hz2'⟩ := info_parts Tryd.infoO
  have HU0 := hid (And.intro hi0 (And.intro hz0' (And.intro hz1' hz2')))
  obtain ⟨i1, hi1, hy0', hy1', hy2'⟩ := info_parts Tryd.infoL
  have HU1 := hid (And.intro hi1 (And.intro hy0' (And.intro hy1' hy2')))
  obtain ⟨i2, hi2, hx0', hx1', hx2'⟩ := info_parts Tryd.infoPt
  have HU2 := hid (And.intro hi2 (And.intro hx0' (And.intro hx1' hx2')))
  clear hi0 hz0' hz1' hz2' hi1 hy0' hy1' hy2' hi2 hx0' hx1' hx2'
  have HS0 := hid (PfS.start w g (.slice (some ⟨b, off, none⟩) (last + 1) cap) 24 33 33 (rightP c f D) (⟨fun _ => none, fun _ => none, fun _ => 0, fun _ => 0, fun _ _ => none, fun _ _ => 0⟩ : PM))
  obtain ⟨b', off', eb, hcl⟩ := hr hc.some
  cases eb
  have y0 := (hcl last l0 hl0).1
  rw [Nat.mul_comm 2 last, hlog0] at y0
  have y0' := nkeep HS0.out.bel y0
  obtain ⟨q0, q1, _⟩ := HS0.out.box
  clear hr hg hn hc hN hi vi hd vd hnd hlk0 hcl hl0 hz0 hlog0 y0
  have s0 : (0 : Int) ≤ (last : Int) := by omega
  have s1 : (last : Int) < (last : Int) + 1 := by omega
  have s2 : (lk0 : Int) ≤ (cd : Int) := by omega
  go_enter Tryd.func11, Tryd.ntmps11
  go_wp2_with fail
  clear y0' q0 q1
  obtain ⟨X, hX⟩ : ∃ X, w.heap.size = X := ⟨_, rfl⟩
  obtain ⟨W1, hW1⟩ : ∃ W1, ((w.alloc (.cells #[.int .i64 g, .slice (some ⟨b, off, none⟩) (last + 1) cap] 24)).alloc (.cells #[.slice none 0 0] 33)).alloc (.cells #[.slice none 0 0] 33) = W1 := ⟨_, rfl⟩
  rw [hW1] at HS0 ⊢
  rw [hX] at HS0 ⊢
  clear hW1 hX
  have HZ0 : Hid (PRow W1 (some ⟨bd, od, none⟩) lk0 (zQ (partsQ c) D 0)) := hid (PRow.of fun j hj => (HD.out.kept HS0.out.bel (HD.out.lt (by omega))) j (by omega))
  go_loopg [9, 10, 11] (last + 1) (fun q z a j wr => ∃ (t at' : Nat) (az : Option Addr) (lk cz : Nat) (vP : Value) (m : PM), t ≤ last + 1 ∧ q = last + 1 - t ∧ z = .slice az lk cz ∧ a = .int .i64 (at' : Int) ∧ j = .int .i64 ((last : Int) - (t : Int)) ∧ lk ≤ 4 ∧ at' ≤ nd ∧ Hid (at' = (partsQ c).at t) ∧ Hid ((partsQ c).lg t = lk) ∧ Hid (PRow wr az lk (zQ (partsQ c) D t)) ∧ Hid (PfS w wr X g (.slice (some ⟨b, off, none⟩) (last + 1) cap) vP t (rightP c f D) m))
  case atStart => exact ⟨0, lk0, _, lk0, cd, _, _, by omega, rfl, rfl, rfl, by simp, lk4, hat0, hid HLK.out.symm, HLK, HZ0, HS0⟩
  case round =>
    clear HZ0 HS0
    obtain ⟨t, a, az, lk, cz, vP, m, ht, rfl, rfl, rfl, rfl, hlk, ha, HA, HLG, HZ, HS⟩ := hrel
    obtain ⟨z0, z1, zl⟩ := HS.out.box
    by_cases htl : t < last + 1
    · obtain ⟨i, hi⟩ : ∃ i : Nat, i + t = last := ⟨last - t, by omega⟩
      obtain ⟨bk, hbk, bk4⟩ := belowQ_rng HC.out i
      have HBK := hid (lg_next HN.out (show i + t + 1 = last + 1 by omega) hbk)
      have HBE : Hid (∀ W, Below w.heap.size w W → Calls Tryd.prog 17 #[.agg #[.int .i64 g, .slice (some ⟨b, off, none⟩) (last + 1) cap], .int .i64 (i : Int)] W fun e w' => e = .returned (.int .i64 (bk : Int)) ∧ Below W.heap.size W w') := hid (fun W h => by rw [← hbk]; exact rbelow_any c g b off (last + 1) cap i A C W HG.out HN.out n4 (by omega) (HR.out.kept h))
      have hfit : a + 2 * bk + 1 ≤ nd := by have h := at_fits (c := c) (j := t) (by rw [HN.out]; exact htl); rw [← HA.out, HBK.out, ← HND.out] at h; exact h
      have hni : (last : Int) - (t : Int) = (i : Int) := by omega
      have i00 : (0 : Int) ≤ (i : Int) := by omega
      have HII := hid hi
      have HIL : Hid (i < last + 1) := hid (by omega)
      clear hbk hi
      rw [hni]
      go_wp2_with fail
      refine (HBE.out _ HS.out.bel).mono ?_
      rintro e w2 ⟨rfl, hb⟩
      replace HS := hid (HS.out.next hb)
      replace HZ := hid (HZ.out.kept hb)
      clear hb z0 z1 zl HBE
      obtain ⟨z0, z1, zl⟩ := HS.out.box
      have HVL := hid (fun W (h : Below w.heap.size w W) => rvals_any c g b off (last + 1) cap A C bi oi N ci f HN.out HC.out HNI.out HVI.out i (by have := HII.out; omega) ((i : Int) - 1) W rfl (HR.out.kept h) (HI.out.kept h (HI.out.lt (by have := (lenQ_rng HC.out 0 (by omega)).1; rw [HNI.out] at this; omega))))
      go_wp2_with fail
      refine (HVL.out _ HS.out.bel).mono ?_
      rintro e w3 ⟨vB, rfl, hob, hb⟩
      replace HS := hid (HS.out.next hb)
      replace HZ := hid (HZ.out.kept hb)
      have HOB := hid hob
      clear hb z0 z1 zl HVL hob
      have hlen : lenQ c i = 2 ^ bk := by
        have h1 := HBK.out
        rw [lenQ]
        have h2 : (belowQ c i).toNat = bk := by
          have h3 : (partsQ c).lg (t + 1) = (belowQ c i).toNat := by show (belowQ c (c.layers.length - (t + 1))).toNat = _; rw [HN.out, show last + 1 - (t + 1) = i from by have := HII.out; omega]
          rw [← h3]; exact h1
        rw [h2]
      obtain ⟨M, hM⟩ : ∃ M, 2 ^ bk = M := ⟨_, rfl⟩
      have hM1 : 1 ≤ M := by rw [← hM]; exact Nat.one_le_two_pow
      have hM16 : M ≤ 16 := by rw [← hM]; exact Nat.pow_le_pow_right (j := 4) (by omega) bk4
      rw [hlen, hM] at HOB
      have HMM := hid hM
      obtain ⟨aB, cB, eB, hpB, _⟩ := HOB.out.is
      obtain ⟨bB, oB, eB2, hrB⟩ := hpB (by omega)
      subst eB2
      subst eB
      have HRB := hid hrB
      clear hlen hM hpB hrB
      have a0 : (0 : Int) ≤ (a : Int) := by omega
      have a1 : (a : Int) ≤ (a : Int) + 2 * (bk : Int) := by omega
      have a2 : (a : Int) + 2 * (bk : Int) ≤ (cd : Int) := by omega
      have a3 : (a : Int) + 2 * (bk : Int) < (nd : Int) := by omega
      have hca : ¬ cd = a := by omega
      have ctau := (HD.out.kept HS.out.bel (HD.out.lt (by omega))) (a + 2 * bk) (by omega)
      go_wp2_with fail
      rw [show a + 2 * bk - a = 2 * bk from by omega]
      obtain ⟨tau, htau⟩ : ∃ x, D (a + 2 * bk) = x := ⟨_, rfl⟩
      have HTAU := hid htau
      have htr := HVD.out (a + 2 * bk)
      rw [htau] at htr ⊢
      clear ctau htau
      obtain ⟨l, hl, hlg, hlen, _, hgo⟩ := parts_layer HC.out (j := t) (by rw [HN.out]; exact htl)
      rw [HN.out, show last + 1 - 1 - t = i from by have := HII.out; omega] at hl
      rw [HLG.out] at hlen
      rw [HBK.out] at hgo
      have HL := hid hl
      have HGL := hid (And.intro hlen hgo)
      clear hl hlg hlen hgo
      have HQ0 := hid (RnQ.start w3 77 (fun _ => none) (fun _ => 0) (fun r => rdQ l.gates lk bk (valsQ c f i) (zQ (partsQ c) D t) (fun q => D (a + q)) r))
      obtain ⟨Y, hY⟩ : ∃ Y, w3.heap.size = Y := ⟨_, rfl⟩
      obtain ⟨W4, hW4⟩ : ∃ W4, w3.alloc (.cells #[.slice none 0 0, .slice none 0 0] 77) = W4 := ⟨_, rfl⟩
      rw [hW4, hY] at HQ0
      rw [hW4, hY]
      clear hW4
      have HYE := hid hY
      clear hY HOB
      go_loopg [17] (2 * bk) (fun q y wr => ∃ (j : Nat) (vR : Value) (AR : Nat → Option Addr) (CR : Nat → Nat), j ≤ 2 * bk ∧ q = 2 * bk - j ∧ y = .int .i64 (j : Int) ∧ Hid (RnQ w3 wr Y vR j AR CR (fun r => rdQ l.gates lk bk (valsQ c f i) (zQ (partsQ c) D t) (fun q => D (a + q)) r)))
      case atStart => exact ⟨0, _, _, _, by omega, rfl, rfl, HQ0⟩
      case round =>
        clear HQ0
        obtain ⟨j, vR, AR, CR, hj2, rfl, rfl, HQ⟩ := hrel
        by_cases hjl : j < 2 * bk
        · have jl : (j : Int) < 2 * (bk : Int) := by omega
          obtain ⟨wj, hwj⟩ : ∃ wj, wj = wr := ⟨_, rfl⟩
          subst hwj
          go_wp2_with fail
          go_loopg [18, 19] 3 (fun q x y wr => ∃ (v : Nat) (vr : Value), v ≤ 3 ∧ q = 3 - v ∧ x = vr ∧ y = .int .u64 (v : Int) ∧ Hid (Own wr wj.heap.size vr v (rdQ l.gates lk bk (valsQ c f i) (zQ (partsQ c) D t) (fun q => D (a + q)) j)) ∧ Hid (Below wj.heap.size wj wr))
          case atStart => exact ⟨0, _, by omega, rfl, rfl, rfl, hid (Own.nil _ _ _), hid (Below.refl _ _)⟩
          case round =>
            obtain ⟨v, vr, hv3, rfl, rfl, rfl, HO, HBV⟩ := hrel
            by_cases hvl : v < 3
            · have vl : (v : Int) < 3 := by omega
              obtain ⟨m', hm'⟩ : ∃ m', 2 * bk - j - 1 = m' := ⟨_, rfl⟩
              have hmi : 2 * (bk : Int) - (j : Int) - 1 = (m' : Int) := by omega
              have m7 : m' ≤ 8 := by omega
              obtain ⟨B2, hB2⟩ : ∃ B2, 2 ^ m' = B2 := ⟨_, rfl⟩
              have HB2 : Hid (wrap64 ((2 : Int) ^ m') = (B2 : Int)) := hid (by rw [← hB2]; exact shl_one m7)
              have hB256 : B2 ≤ 256 := by rw [← hB2]; exact Nat.pow_le_pow_right (j := 8) (by omega) m7
              have HB2E := hid hB2
              clear hB2
              obtain ⟨wv, hwv⟩ : ∃ wv, wv = wr := ⟨_, rfl⟩
              subst hwv
              go_wp2_with fail
              go_loopg [20, 21] B2 (fun q x y wr => ∃ (bb : Nat) (zz : Int), bb ≤ B2 ∧ q = B2 - bb ∧ x = .int .u64 zz ∧ y = .int .i64 (bb : Int) ∧ 0 ≤ zz ∧ zz ≤ 2305843009213693950 ∧ Hid (zz = ofK (sK (cornT l.gates lk bk (valsQ c f i) (zQ (partsQ c) D t) (fun q => D (a + q)) j v m') bb)) ∧ Hid (Below wv.heap.size wv wr))
              case atStart => exact ⟨0, 0, by omega, rfl, rfl, rfl, by omega, by omega, hid rfl, hid (Below.refl _ _)⟩
              case round =>
                obtain ⟨bb, zz, hbb, rfl, rfl, rfl, zz0, zz1, HZZ, HBB⟩ := hrel
                by_cases hbl : bb < B2
                · have bl : (bb : Int) < wrap64 ((2 : Int) ^ m') := by rw [HB2.out]; omega
                  have c00 : (0 : Int) ≤ (j : Int) := by omega
                  have c01 : (j : Int) ≤ ((cd - a : Nat) : Int) := by omega
                  have HW : Hid (Below w.heap.size w wr) := hid (by
                    have h1 := HS.out.bel.trans (HQ.out.bel.mono HS.out.bel.size)
                    have h2 := h1.trans (HBV.out.mono h1.size)
                    exact h2.trans (HBB.out.mono h2.size))
                  have HPD : Hid (PRow wr (some ⟨bd, od + a, none⟩) j (fun q => D (a + q))) := hid (PRow.of fun q hq => by
                    have := (HD.out.kept HW.out (HD.out.lt (by omega))) (a + q) (by omega)
                    rw [← Nat.add_assoc] at this
                    exact this)
                  obtain ⟨k2, hk2⟩ : ∃ k2, 2 * bk = k2 := ⟨_, rfl⟩
                  obtain ⟨k3, hk3⟩ : ∃ k3, k2 - j = k3 := ⟨_, rfl⟩
                  have w1 : IntKind.i64.wrap (2 * (bk : Int)) = (k2 : Int) := by rw [show 2 * (bk : Int) = (k2 : Int) from by omega]; exact IntWalk.i64_in _ (by omega)
                  have w2 : IntKind.i64.wrap ((k2 : Int) - (j : Int)) = (k3 : Int) := by rw [show (k2 : Int) - (j : Int) = (k3 : Int) from by omega]; exact IntWalk.i64_in _ (by omega)
                  have w3' : IntKind.i64.wrap ((k3 : Int) - 1) = (m' : Int) := by rw [show (k3 : Int) - 1 = (m' : Int) from by omega]; exact IntWalk.i64_in _ (by omega)
                  have HBI := hid (fun W => rbits_any bb m' W (by omega) (by omega))
                  have hjm : j + 1 + m' = k2 := by omega
                  have k28 : k2 ≤ 8 := by omega
                  have HK2 := hid hk2
                  have HJM := hid hjm
                  clear hk2 hk3 hjm
                  go_wp2_with fail
                  go_cut [22] (fun a22 wx => ∃ bj cj, a22 = .slice (some ⟨bj, 0, none⟩) k2 cj ∧ k2 ≤ cj ∧ Hid (Below wr.heap.size wr wx) ∧ Hid (Row wx bj 0 k2 (xyF (fun q => D (a + q)) j v m' bb)))
                  case first =>
                    go_region_held3 (fun _ => True) (trivial) (first
                      | (go_at_call 33; refine (HBI.out _).mono ?_; rintro e w5 ⟨vb, rfl, hob, hb5, hzb⟩; obtain ⟨ab, cb, rfl, hpb, _⟩ := hob.is; have HPB := hid hpb; have HB5 := hid hb5; clear hob hb5 hzb hpb)
                      | (go_at_call 32; refine (corn_joinA HPD.out HB5.out HPB.out HJM.out k28).mono ?_; rintro e w6 ⟨bj, cj, rfl, hcj, hrj, hbj⟩; have HRJ := hid hrj; have HBJ := hid hbj; clear hrj hbj)
                      | (go_at_call 32; refine (corn_joinB HPD.out HB5.out HPB.out HJM.out k28).mono ?_; rintro e w6 ⟨bj, cj, rfl, hcj, hrj, hbj⟩; have HRJ := hid hrj; have HBJ := hid hbj; clear hrj hbj))
                    all_goals (go_wp2_with fail)
                    all_goals go_meet
                    all_goals exact ⟨_, _, rfl, hcj, HBJ, HRJ⟩
                  case rest =>
                    obtain ⟨bj, cj, rfl, hcj, HBJ, HRJ⟩ := hcut
                    have d0 : (0 : Int) ≤ (bk : Int) := by omega
                    have d1 : (bk : Int) ≤ (cj : Int) := by have := HK2.out; omega
                    have d2 : (bk : Int) ≤ (k2 : Int) := by have := HK2.out; omega
                    have d3 : ¬ cj = bk := by have := HK2.out; omega
                    clear HBI w1 w2 w3' bl c00 c01
                    go_wp2_with fail
                    go_quiet (fail)
                    rw [show k2 - bk = bk from by have := HK2.out; omega]
                    have HB7 : Hid (Below wr.heap.size wr (wc.drewN nq)) := hid (HBJ.out.trans ⟨rfl, rfl, rfl, Nat.le_refl _, fun _ _ => rfl⟩)
                    have HRJ7 : Hid (Row (wc.drewN nq) bj 0 k2 (xyF (fun q => D (a + q)) j v m' bb)) := hid HRJ.out
                    generalize wc.drewN nq = W7 at HB7 HRJ7 ⊢
                    clear d0 d1 d2 d3 HBJ HRJ
                    have HW7 : Hid (Below w.heap.size w W7) := hid (HW.out.trans (HB7.out.mono HW.out.size))
                    have HB37 : Hid (Below w3.heap.size w3 W7) := hid (by
                      have h2 := HQ.out.bel.trans (HBV.out.mono HQ.out.bel.size)
                      have h3 := h2.trans (HBB.out.mono h2.size)
                      exact h3.trans (HB7.out.mono h3.size))
                    have HS7 := hid (HS.out.next HB37.out)
                    have nxy := Nums_xyF (fun q => HVD.out (a + q)) j v m' bb (by omega)
                    have HXY := hid nxy
                    obtain ⟨evF, hevF⟩ : ∃ evF : Nat → Int, evF = fun o => ofK (evS (fun q => kk (valsQ c f i q)) (fun q => kk (xyF (fun q => D (a + q)) j v m' bb (o + q))) bk) := ⟨_, rfl⟩
                    have HEV := hid (fun (W : World) (oj cc : Nat) (hb : Below W7.heap.size W7 W) (ho : oj + bk ≤ k2) => (by
                      have h := reval_any bB oB bk M cB cc (some ⟨bj, oj, none⟩) (valsQ c f i) (fun q => xyF (fun q => D (a + q)) j v m' bb (oj + q)) W (by omega) HMM.out.symm (by omega) ((HRB.out.kept HB37.out (HRB.out.lt (by omega))).kept hb ((HRB.out.kept HB37.out (HRB.out.lt (by omega))).lt (by omega))) (Nums_vals c f i) (PRow.of fun q hq => by
                        have := (HRJ7.out.kept hb (HRJ7.out.lt (by omega))) (oj + q) (by omega)
                        rw [Nat.zero_add] at this
                        exact this) (fun q => HXY.out (oj + q))
                      rw [hevF]
                      exact h : Calls Tryd.prog 36 #[.slice (some ⟨bB, oB, none⟩) M cB, .slice (some ⟨bj, oj, none⟩) bk cc] W fun e w' => e = .returned (.int .u64 (evF oj)) ∧ Below W.heap.size W w'))
                    have hev0 : 0 ≤ evF 0 ∧ evF 0 ≤ 2305843009213693950 := by rw [hevF]; exact ofK_rng _
                    have hev1 : 0 ≤ evF bk ∧ evF bk ≤ 2305843009213693950 := by rw [hevF]; exact ofK_rng _
                    have HST := hid (fun (W : World) (hb : Below W7.heap.size W7 W) => (by
                      have hbw := HW7.out.trans (hb.mono HW7.out.size)
                      obtain ⟨b', off', eb, hcl⟩ := HR.out.kept hbw HC.out.some
                      cases eb
                      obtain ⟨_, c1, c2, _⟩ := hcl i l HL.out
                      have hz7 := HZ.out.kept HB37.out
                      have hk2 := HK2.out
                      have hxr := HRJ7.out.kept hb (HRJ7.out.lt (by omega))
                      exact rstep_ask (⟨HIL.out, n4, rfl, Nat.le_trans (Nat.pow_le_pow_right (by omega) hlk) (by decide), Nat.le_trans (Nat.pow_le_pow_right (by omega) bk4) (by decide), hlk, bk4, rfl, HGL.out.1, HGL.out.2, by rw [← HGL.out.1]; exact c1, c2, hz7.kept hb, PRow.of (fun q hq => hxr q (by omega)), PRow.of (fun q hq => by have := hxr (bk + q) (by omega); rw [Nat.zero_add] at this; exact this), Nums_zQ HVD.out _ _, HXY.out, fun q => HXY.out (bk + q)⟩ : Ask W l b off (last + 1) i (A i) (C i) az (some ⟨bj, 0, none⟩) (some ⟨bj, bk, none⟩) lk bk bk (2 ^ lk) (2 ^ bk) (zQ (partsQ c) D t) (xyF (fun q => D (a + q)) j v m' bb) (fun q => xyF (fun q => D (a + q)) j v m' bb (bk + q))) g cap cz cj (cj - bk) (evF 0) (evF bk) hev0.1 (by omega) hev1.1 (by omega) : Calls Tryd.prog 35 #[.agg #[.int .i64 g, .slice (some ⟨b, off, none⟩) (last + 1) cap], .int .i64 (i : Int), .slice az lk cz, .slice (some ⟨bj, 0, none⟩) bk cj, .slice (some ⟨bj, bk, none⟩) bk (cj - bk), .int .u64 (evF 0), .int .u64 (evF bk)] W fun e w' => e = .returned (.int .u64 (wstQ l.gates lk bk (zQ (partsQ c) D t) (xyF (fun q => D (a + q)) j v m' bb) (fun q => xyF (fun q => D (a + q)) j v m' bb (bk + q)) (evF 0) (evF bk))) ∧ Below W.heap.size W w'))
                    have HCS : Hid (wstQ l.gates lk bk (zQ (partsQ c) D t) (xyF (fun q => D (a + q)) j v m' bb) (fun q => xyF (fun q => D (a + q)) j v m' bb (bk + q)) (evF 0) (evF bk) = ofK (cornT l.gates lk bk (valsQ c f i) (zQ (partsQ c) D t) (fun q => D (a + q)) j v m' bb)) := hid (by
                      rw [hevF, ← corn_step]
                      congr 1
                      simp)
                    have hsr := ofK_rng (cornT l.gates lk bk (valsQ c f i) (zQ (partsQ c) D t) (fun q => D (a + q)) j v m' bb)
                    rw [HCS.out] at HST
                    obtain ⟨sv, hsv⟩ : ∃ x, ofK (cornT l.gates lk bk (valsQ c f i) (zQ (partsQ c) D t) (fun q => D (a + q)) j v m' bb) = x := ⟨_, rfl⟩
                    rw [hsv] at HST hsr
                    have HNXT := hid (corn_next (cornT l.gates lk bk (valsQ c f i) (zQ (partsQ c) D t) (fun q => D (a + q)) j v m') bb sv hsv.symm zz HZZ.out)
                    have HAD := hid (fun W => radd_any zz sv W zz0 (by omega) hsr.1 (by omega))
                    clear hsv hevF
                    obtain ⟨q5, q6, _⟩ := HS7.out.box
                    obtain ⟨SS, hSS⟩ : ∃ SS : World → Prop, SS = fun _ => True := ⟨_, rfl⟩
                    have HSS : Hid (∀ W, SS W) := hid (fun W => by rw [hSS]; trivial)
                    clear hSS
                    have k5 : ∀ t : QT W7 SS, t.w.cell? ⟨X, 0, none⟩ = some (.int .i64 g) := fun t => nkeep t.b q5
                    have k6 : ∀ t : QT W7 SS, t.w.cell? ⟨X, 1, none⟩ = some (.slice (some ⟨b, off, none⟩) (last + 1) cap) := fun t => nkeep t.b q6
                    have HBL : Hid (∀ t : QT W7 SS, Below W7.heap.size W7 t.w) := hid (fun t => t.b)
                    have HO0 : Hid (0 + bk ≤ k2) := hid (by have := HK2.out; omega)
                    have HO1 : Hid (bk + bk ≤ k2) := hid (by have := HK2.out; omega)
                    clear q5 q6
                    go_wp2_with fail
                    refine wp_region_grown SS (by kernel_rfl) (by kernel_rfl) (HSS.out _) ?_
                    haveI : Nonempty (QT W7 SS) := QT.ne (HSS.out _)
                    repeat (first | go_big_quiet_skip | (go_big_quiet_want; go_big_quiet_op; first | go_big_quiet_on | go_big_quiet_call (first | (go_at_call 36; exact Calls.grown_of (HEV.out _ _ _ (HBL.out _) (by first | exact HO0.out | exact HO1.out)) (fun _ _ => HSS.out _)) | (go_at_call 35; exact Calls.grown_of (HST.out _ (HBL.out _)) (fun _ _ => HSS.out _)) | (go_at_call 34; exact Calls.grown_same (HAD.out _)))))
                    refine wpQuiet_nil ?_
                    intro _ hw'
                    obtain ⟨tq, hw''⟩ := hw'
                    subst hw''
                    have HBQ : Hid (Below wv.heap.size wv tq.w) := hid (by
                      have h2 := HBB.out.trans (HB7.out.mono HBB.out.size)
                      exact h2.trans (tq.b.mono h2.size))
                    generalize tq.w = W8 at HBQ ⊢
                    go_wp2_with fail
                    go_roundg (B2 - (bb + 1))
                    case measure => go_light; omega
                    case rel => exact ⟨bb + 1, _, by omega, rfl, rfl, by go_num, (addQ_rng _ _).1, (addQ_rng _ _).2, HNXT, HBQ⟩
                · have e : B2 = bb := by omega
                  subst e
                  have bl : ¬ (B2 : Int) < wrap64 ((2 : Int) ^ m') := by rw [HB2.out]; omega
                  have HSUM : Hid (zz = rdQ l.gates lk bk (valsQ c f i) (zQ (partsQ c) D t) (fun q => D (a + q)) j v) := hid (by rw [HZZ.out, ← HB2E.out]; exact corn_sum _ _ _ _ _ _ _ _ _ (by omega))
                  have HO4 := hid (HO.out.kept HBB.out)
                  have HB4 : Hid (Below wj.heap.size wj wr) := hid (HBV.out.trans (HBB.out.mono HBV.out.size))
                  go_wp2_with (at_builtin; refine wpList_append_lies _ rfl _ _ 25 rfl wj.heap.size 45 i0 (.int .u64 0) 1 8 Tryd.underlying25 HU0.out.1 HU0.out.2.1 HU0.out.2.2.1 HU0.out.2.2.2 rfl (by decide) _ _ _ rfl (World.ownsRow.alloc HO4.out _) ⟨wr.heap.size, 0, none⟩ 1 1 [.int .u64 zz] rfl rfl (news_one wr zz _) (one_cell zz) (by omega) (by unfold maxLen; omega) (by omega) (by have := HB4.out.size; simp; omega) (wr.heap.size + 1) (by simp) ?_)
                  intro g6 c6 w6 hown6 hgrow6 hat6 hlt6
                  have HN6 := hid (own_snoc HB4.out HO4.out hown6 hgrow6 (fun _ _ => rfl) HSUM.out)
                  clear hown6 hgrow6 hat6 hlt6
                  go_wp2_with fail
                  go_roundg (3 - (v + 1))
                  case measure => go_light; omega
                  case rel => exact ⟨v + 1, _, by omega, rfl, rfl, by go_num, hid HN6.out.1, hid HN6.out.2⟩
            · have e : v = 3 := by omega
              subst e
              have HQ5 := hid (HQ.out.next HBV.out)
              obtain ⟨bu, cu, eu, hcu, hru, hlo, hlu⟩ := own_some HO.out (by omega)
              subst eu
              have HRU := hid hru
              have HLU : Hid (Y + 1 ≤ bu ∧ bu < wr.heap.size ∧ vR.ownBlock ≠ some bu) := hid ⟨Nat.le_trans HQ.out.lt hlo, hlu, HQ.out.rs.ov.far hlo⟩
              clear hru hlo hlu HO
              have y0 := HQ5.out.c0
              have fy := HQ5.out.f0
              have y0' := fun o => nkeep (nbel wr o) y0
              go_wp2_with (at_builtin; refine wpList_append_lies _ rfl _ _ 68 rfl (Y + 1) 25 i1 (.slice none 0 0) 1 24 Tryd.underlying68 HU1.out.1 HU1.out.2.1 HU1.out.2.2.1 HU1.out.2.2.2 rfl (by decide) _ _ _ rfl (World.ownsRow.alloc HQ5.out.rs.ov.own _) ⟨wr.heap.size, 0, none⟩ 1 1 [.slice (some ⟨bu, 0, none⟩) 3 cu] rfl rfl ?qc2 ?qc3 ?qc4 ?qc5 ?qc6 ?qc7 (wr.heap.size + 1) ?qc8 ?_)
              case qc2 =>
                intro q u hq
                match q, hq with
                | 0, hq => simp at hq; subst hq; simp [Addr.add]
              case qc3 => intro u hu; simp at hu; subst hu; rfl
              case qc4 => omega
              case qc5 => unfold maxLen; omega
              case qc6 => omega
              case qc7 => have := HQ5.out.lt; simp; omega
              case qc8 => simp
              intro g6 c6 w6 hown6 hgrow6 hat6 hlt6
              have HP6 := hid (HQ5.out.put hown6 hgrow6 hat6 HLU.out HRU.out)
              obtain ⟨⟨p0, p1⟩, _⟩ := HP6.out
              clear hown6 hgrow6 hat6 hlt6 y0 fy y0'
              go_wp2_with fail
              go_roundg (2 * bk - (j + 1))
              case measure => go_light; omega
              case rel => exact ⟨j + 1, _, _, _, by omega, rfl, by go_num, hid HP6.out.2⟩
        · have e : 2 * bk = j := by omega
          subst e
          have d0 : (0 : Int) ≤ (bk : Int) := by omega
          have d1 : (bk : Int) ≤ ((cd - a : Nat) : Int) := by omega
          have d2 : (bk : Int) ≤ 2 * (bk : Int) := by omega
          have d3 : ¬ cd - a = bk := by omega
          go_wp2_with fail
          go_quiet (fail)
          rw [show 2 * bk - bk = bk from by omega]
          have HQ5 := hid (HQ.out.next (⟨rfl, rfl, rfl, Nat.le_refl _, fun _ _ => rfl⟩ : Below wr.heap.size wr (wr.drewN nq)))
          generalize wr.drewN nq = L0 at HQ5 ⊢
          clear HQ
          have HL0 : Hid (LnQ L0 L0 Y vR (.slice none 0 0) 0 (lnF (valsQ c f i) (fun q => D (a + q)) bk)) := hid ⟨ButS.refl _ _, HQ5.out.lt, HQ5.out.c0, HQ5.out.c1, HQ5.out.f1, Own.nil _ _ _⟩
          have HDX : Hid (∀ W, Below w.heap.size w W → PRow W (some ⟨bd, od + a, none⟩) bk (fun q => D (a + q)) ∧ PRow W (some ⟨bd, od + a + bk, none⟩) bk (fun q => D (a + (bk + q)))) := hid (fun W hW => by
            have hr := HD.out.kept hW (HD.out.lt (by omega))
            exact ⟨PRow.of fun q hq => by rw [Nat.add_assoc]; exact hr (a + q) (by omega), PRow.of fun q hq => by rw [show od + a + bk + q = od + (a + (bk + q)) from by omega]; exact hr (a + (bk + q)) (by omega)⟩)
          go_wp2_with fail
          go_loopg [27] (bk + 1) (fun q y wr => ∃ (s : Nat) (vL : Value), s ≤ bk + 1 ∧ q = bk + 1 - s ∧ y = .int .i64 (s : Int) ∧ Hid (LnQ L0 wr Y vR vL s (lnF (valsQ c f i) (fun q => D (a + q)) bk)))
          case atStart => exact ⟨0, _, by omega, rfl, rfl, HL0⟩
          case round =>
            clear HL0
            obtain ⟨s, vL, hsb, rfl, rfl, HLN⟩ := hrel
            have HB3 : Hid (Below w3.heap.size w3 wr) := hid (HLN.out.bel HQ5.out.bel HYE.out)
            have HSW := hid (HS.out.next HB3.out)
            by_cases hsl : s < bk + 1
            · have sl : (s : Int) ≤ (bk : Int) := by omega
              have wt : IntKind.u64.wrap (s : Int) = (s : Int) := by rw [IntKind.wrap_u64]; omega
              have HLI := hid (fun (W : World) (hb : Below wr.heap.size wr W) => rline_any (some ⟨bd, od + a, none⟩) (some ⟨bd, od + a + bk, none⟩) bk (cd - a) (cd - a - bk) (fun q => D (a + q)) (fun q => D (a + (bk + q))) (s : Int) W (by omega) (HDX.out W (HSW.out.bel.trans (hb.mono HSW.out.bel.size))).1 (HDX.out W (HSW.out.bel.trans (hb.mono HSW.out.bel.size))).2 (fun q => HVD.out _) (fun q => HVD.out _) (by omega) (by omega))
              have HEV := hid (fun (W : World) (al : Option Addr) (cc : Nat) (hb : Below wr.heap.size wr W) (hp : PRow W al bk (linQ (fun q => D (a + q)) (fun q => D (a + (bk + q))) (s : Int))) => (by exact reval_any bB oB bk M cB cc al (valsQ c f i) (linQ (fun q => D (a + q)) (fun q => D (a + (bk + q))) (s : Int)) W (by omega) HMM.out.symm (by omega) ((HRB.out.kept HB3.out (HRB.out.lt (by omega))).kept hb ((HRB.out.kept HB3.out (HRB.out.lt (by omega))).lt (by omega))) (Nums_vals c f i) hp (fun q => by have := linQ_rng (fun q => D (a + q)) (fun q => D (a + (bk + q))) (s : Int) q; omega) : Calls Tryd.prog 36 #[.slice (some ⟨bB, oB, none⟩) M cB, .slice al bk cc] W fun e w' => e = .returned (.int .u64 (lnF (valsQ c f i) (fun q => D (a + q)) bk s)) ∧ Below W.heap.size W w'))
              obtain ⟨yv, hyv⟩ : ∃ x, lnF (valsQ c f i) (fun q => D (a + q)) bk s = x := ⟨_, rfl⟩
              rw [hyv] at HEV
              have HYV := hid hyv
              have y1 := HLN.out.c1
              have fy := HLN.out.f1
              have hls : L0.heap.size ≤ wr.heap.size := HLN.out.but.size
              clear hyv
              go_wp2_with fail
              go_region_law (first
                | (refine step_append_lies _ (by rfl) (.tmp 150) (.tmp 158) 25 (by rfl) L0.heap.size 45 i0 (.int .u64 0) 1 8 Tryd.underlying25 HU0.out.1 HU0.out.2.1 HU0.out.2.2.1 HU0.out.2.2.2 rfl (by decide) vL s (cellsOf s (lnF (valsQ c f i) (fun q => D (a + q)) bk)) (by rfl) (World.ownsRow.alloc HLN7.out.own _) ⟨w7.heap.size, 0, none⟩ 1 1 [.int .u64 yv] (by rfl) (by rfl) (news_one w7 yv _) (one_cell yv) (by omega) (by unfold maxLen; omega) (by omega) (by have := HLS7.out; simp; omega) (w7.heap.size + 1) (by simp) ?_; intro g6 c6 w8 hown6 hgrow6 hat6 hlt6; have HP8 := hid (HLN7.out.put hown6 hgrow6 HYV.out.symm); have q1 := HP8.out.1.1; have q2 := HP8.out.1.2)
                | (go_simp; go_at_call 37; refine (HLI.out _ (Below.refl _ wr).drew).mono ?_; rintro e w6 ⟨vl, rfl, hol, hb6⟩; obtain ⟨al, cal, rfl, hpl, _⟩ := hol.is; have HB6 : Hid (Below wr.heap.size wr w6) := hid ((Below.refl _ wr).drew.trans hb6); have HPL := hid hpl; have y6 := nkeep HB6.out y1; clear hol hb6 hpl)
                | (go_simp; go_at_call 36; refine (HEV.out _ _ _ HB6.out HPL.out).mono ?_; rintro e w7 ⟨rfl, hb7⟩; have HB7 : Hid (Below wr.heap.size wr w7) := hid (HB6.out.trans (hb7.mono HB6.out.size)); have HLN7 := hid (HLN.out.next HB7.out); have HLS7 : Hid (L0.heap.size ≤ w7.heap.size) := hid (Nat.le_trans hls HB7.out.size); have y7 := HLN7.out.c1; have y8 := fun o => nkeep (nbel w7 o) y7; clear hb7))
              all_goals (go_wp2_with fail)
              all_goals (go_roundg (bk + 1 - (s + 1)))
              all_goals first | (go_light; omega) | (exact ⟨s + 1, _, by omega, rfl, by go_num, hid HP8.out.2⟩)
            · have e : s = bk + 1 := by omega
              subst e
              have HRS : Hid (RndS wr (Y + 1) vR (2 * bk) AR (fun _ => 3) CR ((rightP c f D).R t)) := hid ((HQ5.out.rs.keep HLN.out.kp).same (fun _ _ => rfl) (fun r q _ _ => by
                have h := rd_right (c := c) (n := last + 1) (i := i) (t := t) (lk := lk) (bk := bk) (l := l) HN.out (by have := HII.out; omega) HL.out HLG.out HBK.out f D r q
                rw [← HA.out] at h
                exact h))
              obtain ⟨aR, cR, eR, hcR, hLR⟩ := HRS.out.ov.is
              obtain ⟨bl, cl, eL, hcl, hrl, hlo, hll⟩ := own_some HLN.out.own (by omega)
              subst eR
              subst eL
              have en : (rightP c f D).rn t = 2 * bk := by show 2 * (partsQ c).lg (t + 1) = _; rw [HBK.out]
              have em : (rightP c f D).ln t = bk + 1 := by show (partsQ c).lg (t + 1) + 1 = _; rw [HBK.out]
              have HEN := hid (And.intro en em)
              obtain ⟨u1, u2, u3, u4, u5, u6⟩ := m.put_at t aR (some ⟨bl, 0, none⟩) cR cl AR CR
              have HPR : Hid (PartR wr (rightP c f D) (m.put t aR (some ⟨bl, 0, none⟩) cR cl AR CR) t) := hid (by
                unfold PartR
                rw [u1, u2, u5, u6, en, em]
                refine ⟨hLR, (PRow.of hrl).congr fun q _ => ?_⟩
                have h := ln_right (c := c) (n := last + 1) (i := i) (t := t) (bk := bk) HN.out (by have := HII.out; omega) HBK.out f D q
                rw [← HA.out] at h
                exact h)
              have hXY : X + 1 + 1 + 1 ≤ Y := by have h1 := HS.out.lo; have h2 := HYE.out; omega
              have hvp : ∀ k, vP.ownBlock = some k → k < Y := fun k hk => by have h1 := (World.ownsRow.lt HS.out.parts.own k hk).2; have h2 := HYE.out; omega
              have hfar : ∀ q, Y + 1 ≤ q → q < wr.heap.size → X + 1 + 1 + 1 ≤ q ∧ q < wr.heap.size ∧ vP.ownBlock ≠ some q := fun q h1 h2 => ⟨by omega, h2, fun e => by have := hvp q e; omega⟩
              have HPA : Hid (PartA (fun q => X + 1 + 1 + 1 ≤ q ∧ q < wr.heap.size ∧ vP.ownBlock ≠ some q) (rightP c f D) (m.put t aR (some ⟨bl, 0, none⟩) cR cl AR CR) t) := hid (by
                unfold PartA
                rw [u1, u2, u5, en]
                refine ⟨fun x hx => ?_, fun x hx => ?_, fun r hr x hx => hfar _ (HRS.out.lo r hr x hx) (HRS.out.ov.lt r hr x hx)⟩
                · have h1 := World.ownsRow.lt HRS.out.ov.own x.block (by rw [hx]; rfl)
                  exact hfar _ h1.1 h1.2
                · cases hx
                  exact hfar _ (Nat.le_trans HQ5.out.lt hlo) hll)
              have y0 := HLN.out.c0
              have y1 := HLN.out.c1
              have x7 := HSW.out.x7
              have f7 := HSW.out.f7
              clear hLR hrl hlo hll en em u1 u2 u3 u4 u5 u6 hXY hvp hfar HRS hcR hcl
              go_wp2_with (at_builtin; refine wpList_append_lies _ rfl _ _ 31 rfl (X + 1 + 1 + 1) 77 i2 (.agg #[.slice none 0 0, .slice none 0 0]) 2 48 Tryd.underlying31 HU2.out.1 HU2.out.2.1 HU2.out.2.2.1 HU2.out.2.2.2 rfl (by decide) _ _ _ rfl (World.ownsRow.alloc HSW.out.parts.own _) ⟨wr.heap.size, 0, none⟩ 1 1 [.slice aR (2 * bk) cR, .slice (some ⟨bl, 0, none⟩) (bk + 1) cl] rfl ?qc1 ?qc2 ?qc3 ?qc4 ?qc5 ?qc6 ?qc7 (wr.heap.size + 1) ?qc8 ?_)
              case qc1 => rfl
              case qc2 =>
                intro q u hq
                match q, hq with
                | 0, hq => simp at hq; subst hq; simp [Addr.add]
                | 1, hq => simp at hq; subst hq; simp [Addr.add]
              case qc3 =>
                intro u hu
                simp at hu
                rcases hu with hu | hu <;> subst hu <;> rfl
              case qc4 => omega
              case qc5 => unfold maxLen; omega
              case qc6 => omega
              case qc7 => have := HSW.out.lo; simp; omega
              case qc8 => simp
              intro g6 c6 w6 hown6 hgrow6 hat6 hlt6
              have HP6 := hid (HSW.out.put (A := AR) (C := CR) (by rw [HEN.out.1, HEN.out.2]; exact hown6) hgrow6 hat6 HPR.out HPA.out)
              obtain ⟨⟨p0, p1⟩, _⟩ := HP6.out
              clear hown6 hgrow6 hat6 hlt6 y0 y1 x7 f7 HPR HPA HSW
              go_wp2_with fail
              obtain ⟨W9, hW9⟩ : ∃ W9, w6.setCell ⟨X + 1 + 1, 0, none⟩ (.slice (some ⟨g6, 0, none⟩) (t + 1) c6) = W9 := ⟨_, rfl⟩
              have HS9 := hid HP6.out.2
              rw [hW9] at HS9 ⊢
              clear hW9 HP6 p0 p1
              refine (rline_any (some ⟨bd, od + a, none⟩) (some ⟨bd, od + a + bk, none⟩) bk (cd - a) (cd - a - bk) (fun q => D (a + q)) (fun q => D (a + (bk + q))) tau W9 (by omega) (HDX.out W9 HS9.out.bel).1 (HDX.out W9 HS9.out.bel).2 (fun q => HVD.out _) (fun q => HVD.out _) htr.1 htr.2).mono ?_
              rintro e w10 ⟨vz, rfl, hoz, hb⟩
              obtain ⟨az', cz', rfl, hpz, _⟩ := hoz.is
              have HS10 := hid (HS9.out.next hb)
              have HZ10 : Hid (PRow w10 az' bk (zQ (partsQ c) D (t + 1))) := hid (by
                have hz : zQ (partsQ c) D (t + 1) = linQ (fun q => D (a + q)) (fun q => D (a + (bk + q))) tau := by
                  rw [zQ, Parts.tau, ← HA.out, HBK.out, HTAU.out]
                  simp only [Nat.add_assoc]
                rw [hz]; exact hpz)
              have HA10 : Hid (a + 2 * bk + 1 = (partsQ c).at (t + 1)) := hid (by show _ = (partsQ c).at t + 2 * (partsQ c).lg (t + 1) + 1; rw [← HA.out, HBK.out])
              clear hoz hb hpz HS9
              go_wp2_with fail
              go_roundg (last + 1 - (t + 1))
              case measure => go_light; omega
              case rel => exact ⟨t + 1, a + 2 * bk + 1, az', bk, cz', _, _, by omega, rfl, rfl, by simp; omega, by have := HII.out; simp; omega, bk4, by omega, HA10, HBK, HZ10, HS10⟩
    · have e : t = last + 1 := by omega
      subst e
      have hpn : (rightP c f D).n = last + 1 := HN.out
      have HAL : Hid (∃ ao cp, vP = .slice ao (last + 1) cp ∧ ∀ z, PfRow (wr.setCell ⟨X + 1, 0, none⟩ z) ao (rightP c f D) m) := hid (by
        have h1 : ∀ z, ∃ ao cp, vP = .slice ao (last + 1) cp ∧ PfRow (wr.setCell ⟨X + 1, 0, none⟩ z) ao (rightP c f D) m := fun z => by
          have h2 : PartsS (wr.setCell ⟨X + 1, 0, none⟩ z) (X + 1 + 1 + 1) vP (rightP c f D).n (rightP c f D) m := by rw [hpn]; exact HS.out.parts.keep (Kp.set _ _ _ (by omega))
          obtain ⟨ao, cp, e, h3⟩ := h2.all
          exact ⟨ao, cp, by rw [← hpn]; exact e, h3⟩
        obtain ⟨ao, cp, e, _⟩ := h1 (.slice none 0 0)
        refine ⟨ao, cp, e, fun z => ?_⟩
        obtain ⟨ao', cp', e', h3⟩ := h1 z
        rw [e] at e'
        cases e'
        exact h3)
      obtain ⟨ao, cp, eP, _⟩ := HAL.out
      have HPF : Hid (∀ z, PfRow (wr.setCell ⟨X + 1, 0, none⟩ z) ao (rightP c f D) m) := hid (fun z => by
        obtain ⟨ao', cp', e', h3⟩ := HAL.out
        rw [eP] at e'
        cases e'
        exact h3 z)
      have HFR : Hid ((∀ a, ao = some a → w.heap.size ≤ a.block) ∧ ∀ j, j < last + 1 → PartA (fun q => w.heap.size ≤ q) (rightP c f D) m j) := hid ⟨fun x hx => by
        have h1 := (World.ownsRow.lt HS.out.parts.own x.block (by rw [eP, hx]; rfl)).1
        have h2 := HS.out.hX
        omega, fun j hj => (HS.out.parts.far j hj).mono fun q hq => by have h2 := HS.out.hX; have h3 := hq.1; omega⟩
      have HB10 : Hid (∀ z, Below w.heap.size w (wr.setCell ⟨X + 1, 0, none⟩ z)) := hid (fun z => HS.out.bel.setCell (by have := HS.out.hX; show w.heap.size ≤ X + 1; omega) z)
      subst eP
      have x7 := HS.out.x7
      have x6 := HS.out.x6
      have f6 := HS.out.f6
      have HX6 := hid x6
      have hneg : ¬ (0 : Int) ≤ (last : Int) - ((last + 1 : Nat) : Int) := by omega
      clear HAL
      go_wp2_with fail
      refine bodyPost_ret (results_prf1 rfl rfl (World.cell?_setCell_same _ _ _ HX6.out)) rfl ?_
      exact ⟨_, _, m, rfl, HPF.out _, HFR.out, HB10.out _⟩

end Go.Proofs.YtpkdkgpfjpalnaaDoor

/-
  A contract of slices.Equal at numbers of 64 bits, where both lists have the same numbers; nothing is written.
-/
namespace Go.Proofs.YtpkdkgpfjpalnaaDoor
open Go.RowKit
set_option linter.unusedVariables false
attribute [local go_sem ↓] Go.wp_at_zero Go.wp_at_succ

set_option maxHeartbeats 2000000 in
set_option maxRecDepth 100000 in
theorem equal_ok (a0 a1 : Option Addr) (n c0 c1 : Nat) (f g : Nat → Int) (w : World) (hn : n ≤ 100000) (p0 : PRow w a0 n f) (p1 : PRow w a1 n g) (e : ∀ j, j < n → f j = g j) :
    Calls Tryd.prog 15 #[.slice a0 n c0, .slice a1 n c1] w fun e w' => e = .returned (.bool true) ∧ Below w.heap.size w w' := by
  have H0 := hid p0
  have H1 := hid (p1.congr fun j hj => (e j hj).symm)
  clear p0 p1 e
  go_enter Tryd.func15, Tryd.ntmps15
  go_wp2_with fail
  go_loopg [13] n (fun q i wr => ∃ k : Nat, k ≤ n ∧ q = n - k ∧ i = .int .i64 (k : Int) ∧ Hid (PRow wr a0 n f) ∧ Hid (PRow wr a1 n f) ∧ Hid (Below w.heap.size w wr))
  case atStart => exact ⟨0, by omega, rfl, rfl, H0, H1, hid (Below.refl _ _)⟩
  case round =>
    clear H0 H1
    obtain ⟨k, hk, rfl, rfl, H0, H1, HB⟩ := hrel
    by_cases hlt : k < n
    · obtain ⟨b1, o1, rfl, r1⟩ := H0.out (by omega)
      obtain ⟨b2, o2, rfl, r2⟩ := H1.out (by omega)
      have c1 := r1 k hlt
      have c2 := r2 k hlt
      clear r1 r2
      obtain ⟨a, ha⟩ : ∃ a, f k = a := ⟨_, rfl⟩
      rw [ha] at c1 c2
      clear ha
      have k0 : (0 : Int) ≤ (k : Int) := by omega
      have k1 : (k : Int) < (n : Int) := by omega
      go_wp2_with fail
      go_region_with (first | fail)
      all_goals (go_wp2_with fail)
      all_goals (go_roundg (n - (k + 1)))
      all_goals first | (go_light; omega) | (exact ⟨k + 1, by omega, rfl, by go_num, hid H0.out.drew, hid H1.out.drew, hid HB.out.drew⟩)
    · have e : k = n := by omega
      subst e
      go_wp2_with fail
      go_ret
      exact ⟨rfl, HB.out⟩

end Go.Proofs.YtpkdkgpfjpalnaaDoor

/-
  A contract of tallyref's SameProof, of two proofs that tell the same; nothing that was there is written.
-/
namespace Go.Proofs.YtpkdkgpfjpalnaaDoor
open Go.RowKit
set_option linter.unusedVariables false
attribute [local go_sem ↓] Go.wp_at_zero Go.wp_at_succ

set_option maxHeartbeats 1000000 in
theorem sp11_ok (a0 a1 : Option Addr) (n c0 c1 : Nat) (f : Nat → Int) (w : World) (hn : n ≤ 100000) (p0 : PRow w a0 n f) (p1 : PRow w a1 n f) :
    Calls Tryd.prog 41 #[.slice a0 n c0, .slice a1 n c1] w fun e w' => e = .returned (.bool true) ∧ Below w.heap.size w w' := by
  have HE := hid (equal_ok a0 a1 n c0 c1 f f w hn p0 p1 (fun _ _ => rfl))
  clear p0 p1
  go_enter Tryd.func41, Tryd.ntmps41
  go_wp2_with (go_at_call 15; refine (HE.out).mono ?_; rintro e w1 ⟨rfl, hb⟩; have HB := hid hb; clear hb)
  go_ret
  exact ⟨rfl, HB.out⟩
set_option maxHeartbeats 4000000 in
set_option maxRecDepth 100000 in
theorem spf_ok (a0 a1 : Option Addr) (m c0 c1 : Nat) (A A2 : Nat → Option Addr) (L C C2 : Nat → Nat) (F : Nat → Nat → Int) (w : World) (hm : m ≤ 1000) (h0 : LRow w a0 m A L C F) (h1 : LRow w a1 m A2 L C2 F) (hL : ∀ i, i < m → L i ≤ 100000) :
    Calls Tryd.prog 40 #[.slice a0 m c0, .slice a1 m c1, .func (.func 41) #[] #[]] w fun e w' => e = .returned (.bool true) ∧ Below w.heap.size w w' := by
  have H0 := hid h0
  have H1 := hid h1
  have HL := hid hL
  clear h0 h1 hL
  go_enter Tryd.func40, Tryd.ntmps40
  go_wp2_with fail
  go_loopg [17] m (fun q i wr => ∃ k : Nat, k ≤ m ∧ q = m - k ∧ i = .int .i64 (k : Int) ∧ Hid (LRow wr a0 m A L C F) ∧ Hid (LRow wr a1 m A2 L C2 F) ∧ Hid (Below w.heap.size w wr))
  case atStart => exact ⟨0, by omega, rfl, rfl, H0, H1, hid (Below.refl _ _)⟩
  case round =>
    clear H0 H1
    obtain ⟨k, hk, rfl, rfl, H0, H1, HB⟩ := hrel
    by_cases hlt : k < m
    · obtain ⟨b1, o1, rfl, r1⟩ := H0.out (by omega)
      obtain ⟨b2, o2, rfl, r2⟩ := H1.out (by omega)
      have c1 := (r1 k hlt).1
      have c2 := (r2 k hlt).1
      have HS := hid (sp11_ok (A k) (A2 k) (L k) (C k) (C2 k) (F k) wr (HL.out k hlt) (r1 k hlt).2 (r2 k hlt).2)
      clear r1 r2
      have k0 : (0 : Int) ≤ (k : Int) := by omega
      have k1 : (k : Int) < (m : Int) := by omega
      go_wp2_with (go_at_call 41; refine (HS.out).mono ?_; rintro e w1 ⟨rfl, hb⟩; have HB1 := hid hb; clear hb)
      go_roundg (m - (k + 1))
      case measure => go_light; omega
      case rel => exact ⟨k + 1, by omega, rfl, by go_num, hid (H0.out.kept HB1.out), hid (H1.out.kept HB1.out), hid (HB.out.trans (HB1.out.mono HB.out.size))⟩
    · have e : k = m := by omega
      subst e
      go_wp2_with fail
      go_ret
      exact ⟨rfl, HB.out⟩
/-- Two boxes. -/
theorem two_boxes (w : World) (u v x y : Value) (t t' : TypeId) : Below w.heap.size w ((w.alloc (.cells #[u, v] t)).alloc (.cells #[x, y] t')) ∧ Box2 ((w.alloc (.cells #[u, v] t)).alloc (.cells #[x, y] t')) w.heap.size u v ∧ Box2 ((w.alloc (.cells #[u, v] t)).alloc (.cells #[x, y] t')) (w.heap.size + 1) x y := by
  have h1 := Box2.new w u v t
  have e : (w.alloc (.cells #[u, v] t)).heap.size = w.heap.size + 1 := by simp
  have hb := (Below.refl w.heap.size w).alloc (Nat.le_refl _) (.cells #[u, v] t)
  generalize w.alloc (.cells #[u, v] t) = W1 at h1 e hb
  have hal := (Below.refl W1.heap.size W1).alloc (Nat.le_refl _) (.cells #[x, y] t')
  exact ⟨hb.trans (hal.mono hb.size), h1.kept hal, by rw [← e]; exact Box2.new W1 x y t'⟩
set_option maxHeartbeats 4000000 in
set_option maxRecDepth 100000 in
theorem sp1_ok (ra ra2 la la2 : Option Addr) (rn rc rc2 ln lc lc2 : Nat) (A A2 : Nat → Option Addr) (L C C2 : Nat → Nat) (F : Nat → Nat → Int) (f : Nat → Int) (w : World) (h1 : rn ≤ 1000) (h2 : ln ≤ 100000) (hL : ∀ i, i < rn → L i ≤ 100000) (r0 : LRow w ra rn A L C F) (r1 : LRow w ra2 rn A2 L C2 F) (p0 : PRow w la ln f) (p1 : PRow w la2 ln f) :
    Calls Tryd.prog 39 #[.agg #[.slice ra rn rc, .slice la ln lc], .agg #[.slice ra2 rn rc2, .slice la2 ln lc2]] w fun e w' => e = .returned (.bool true) ∧ Below w.heap.size w w' := by
  have HE := hid (fun W (h : Below w.heap.size w W) => equal_ok la la2 ln lc lc2 f f W h2 (p0.kept h) (p1.kept h) (fun _ _ => rfl))
  have HF := hid (fun W (h : Below w.heap.size w W) => spf_ok ra ra2 rn rc rc2 A A2 L C C2 F W h1 (r0.kept h) (r1.kept h) hL)
  obtain ⟨hb0, hx0, hx1⟩ := two_boxes w (.slice ra rn rc) (.slice la ln lc) (.slice ra2 rn rc2) (.slice la2 ln lc2) 77 77
  have HB0 := hid (And.intro hb0 (And.intro hx0 hx1))
  clear r0 r1 p0 p1 hL hb0
  obtain ⟨x0, x1, xl⟩ := hx0
  obtain ⟨y0, y1, yl⟩ := hx1
  go_enter Tryd.func39, Tryd.ntmps39
  go_wp2_with fail
  clear x0 x1 xl y0 y1 yl
  obtain ⟨X, hX⟩ : ∃ X, w.heap.size = X := ⟨_, rfl⟩
  have HBX : Hid (Below w.heap.size w ((w.alloc (.cells #[.slice ra rn rc, .slice la ln lc] 77)).alloc (.cells #[.slice ra2 rn rc2, .slice la2 ln lc2] 77)) ∧ Box2 ((w.alloc (.cells #[.slice ra rn rc, .slice la ln lc] 77)).alloc (.cells #[.slice ra2 rn rc2, .slice la2 ln lc2] 77)) X (.slice ra rn rc) (.slice la ln lc) ∧ Box2 ((w.alloc (.cells #[.slice ra rn rc, .slice la ln lc] 77)).alloc (.cells #[.slice ra2 rn rc2, .slice la2 ln lc2] 77)) (X + 1) (.slice ra2 rn rc2) (.slice la2 ln lc2)) := hid (by rw [← hX]; exact HB0.out)
  rw [hX]
  clear hX HB0
  generalize (w.alloc (.cells #[.slice ra rn rc, .slice la ln lc] 77)).alloc (.cells #[.slice ra2 rn rc2, .slice la2 ln lc2] 77) = W0 at HBX ⊢
  refine (HE.out _ HBX.out.1).mono ?_
  rintro e w1 ⟨rfl, hb⟩
  obtain ⟨x0, x1, xl⟩ := HBX.out.2.1.kept hb
  obtain ⟨y0, y1, yl⟩ := HBX.out.2.2.kept hb
  have HB1 := hid (HBX.out.1.trans (hb.mono HBX.out.1.size))
  clear hb
  go_wp2_with fail
  refine (HF.out _ HB1.out).mono ?_
  rintro e w2 ⟨rfl, hb⟩
  have HB2 := hid (HB1.out.trans (hb.mono HB1.out.size))
  clear hb
  go_wp2_with fail
  go_ret
  exact ⟨rfl, HB2.out⟩
set_option maxHeartbeats 4000000 in
set_option maxRecDepth 100000 in
theorem spp_ok (ap aq : Option Addr) (np cp cq : Nat) (p : PQ) (m m2 : PM) (w : World) (hp : p.n = np) (h1 : np ≤ 1000) (hb : ∀ j, j < np → p.rn j ≤ 1000 ∧ p.ln j ≤ 100000 ∧ ∀ i, i < p.rn j → p.rl j i ≤ 100000) (h0 : PfRow w ap p m) (h2 : PfRow w aq p m2) :
    Calls Tryd.prog 38 #[.slice ap np cp, .slice aq np cq, .func (.func 39) #[] #[]] w fun e w' => e = .returned (.bool true) ∧ Below w.heap.size w w' := by
  have H0 := hid h0
  have H2 := hid h2
  have HP := hid hp
  have HL := hid hb
  clear h0 h2 hp hb
  go_enter Tryd.func38, Tryd.ntmps38
  go_wp2_with fail
  go_loopg [17] np (fun q i wr => ∃ k : Nat, k ≤ np ∧ q = np - k ∧ i = .int .i64 (k : Int) ∧ Hid (Below w.heap.size w wr))
  case atStart => exact ⟨0, by omega, rfl, rfl, hid (Below.refl _ _)⟩
  case round =>
    obtain ⟨k, hk, rfl, rfl, HB⟩ := hrel
    by_cases hlt : k < np
    · obtain ⟨b1, o1, e1, r1⟩ := H0.out.kept HB.out (by rw [HP.out]; omega)
      obtain ⟨b2, o2, e2, r2⟩ := H2.out.kept HB.out (by rw [HP.out]; omega)
      subst e1
      subst e2
      obtain ⟨c0, c1, c2, c3⟩ := r1 k (by rw [HP.out]; exact hlt)
      obtain ⟨d0, d1, d2, d3⟩ := r2 k (by rw [HP.out]; exact hlt)
      rw [Nat.mul_comm 2 k] at c0 c1 d0 d1
      obtain ⟨l1, l2, l3⟩ := HL.out k hlt
      obtain ⟨rn, hrn⟩ : ∃ x, p.rn k = x := ⟨_, rfl⟩
      obtain ⟨ln, hln⟩ : ∃ x, p.ln k = x := ⟨_, rfl⟩
      obtain ⟨ra, hra⟩ : ∃ x, m.ra k = x := ⟨_, rfl⟩
      obtain ⟨rc, hrc⟩ : ∃ x, m.rc k = x := ⟨_, rfl⟩
      obtain ⟨la, hla⟩ : ∃ x, m.la k = x := ⟨_, rfl⟩
      obtain ⟨lc, hlc⟩ : ∃ x, m.lc k = x := ⟨_, rfl⟩
      obtain ⟨ra2, hra2⟩ : ∃ x, m2.ra k = x := ⟨_, rfl⟩
      obtain ⟨rc2, hrc2⟩ : ∃ x, m2.rc k = x := ⟨_, rfl⟩
      obtain ⟨la2, hla2⟩ : ∃ x, m2.la k = x := ⟨_, rfl⟩
      obtain ⟨lc2, hlc2⟩ : ∃ x, m2.lc k = x := ⟨_, rfl⟩
      rw [hra, hrn, hrc] at c0
      rw [hla, hln, hlc] at c1
      rw [hra2, hrn, hrc2] at d0
      rw [hla2, hln, hlc2] at d1
      rw [hra, hrn] at c2
      rw [hla, hln] at c3
      rw [hra2, hrn] at d2
      rw [hla2, hln] at d3
      rw [hrn] at l1 l3
      rw [hln] at l2
      have HS := hid (fun W (h : Below wr.heap.size wr W) => sp1_ok ra ra2 la la2 rn rc rc2 ln lc lc2 (m.A k) (m2.A k) (p.rl k) (m.C k) (m2.C k) (p.R k) (p.L k) W l1 l2 l3 (c2.kept h) (d2.kept h) (c3.kept h) (d3.kept h))
      clear r1 r2 c2 c3 d2 d3 l1 l2 l3 hrn hln hra hrc hla hlc hra2 hrc2 hla2 hlc2
      obtain ⟨hb0, hx0, hx1⟩ := two_boxes wr (.slice ra rn rc) (.slice la ln lc) (.slice ra2 rn rc2) (.slice la2 ln lc2) 77 77
      have HB0 := hid hb0
      have hal := (Below.refl wr.heap.size wr).alloc (Nat.le_refl _) (.cells #[.slice ra rn rc, .slice la ln lc] 77)
      have d0' := (hal.cell (World.block_lt_of_cell? wr _ d0)).trans d0
      have d1' := (hal.cell (World.block_lt_of_cell? wr _ d1)).trans d1
      clear hb0 hal
      obtain ⟨x0, x1, xl⟩ := hx0
      obtain ⟨y0, y1, yl⟩ := hx1
      have k0 : (0 : Int) ≤ (k : Int) := by omega
      have k1 : (k : Int) < (np : Int) := by omega
      go_wp2_with fail
      refine (HS.out _ HB0.out).mono ?_
      rintro e w1 ⟨rfl, hb⟩
      have HB1 := hid (HB.out.trans ((HB0.out.trans (hb.mono HB0.out.size)).mono HB.out.size))
      clear hb x0 x1 xl y0 y1 yl c0 c1 d0 d1 d0' d1'
      go_wp2_with fail
      go_roundg (np - (k + 1))
      case measure => go_light; omega
      case rel => exact ⟨k + 1, by omega, rfl, by go_num, HB1⟩
    · have e : k = np := by omega
      subst e
      have k1 : ¬ ((k : Int) < (k : Int)) := by omega
      go_wp2_with fail
      go_ret
      exact ⟨rfl, HB.out⟩
set_option maxHeartbeats 4000000 in
set_option maxRecDepth 100000 in
theorem sameproof_ok (ap aq : Option Addr) (np cp cq : Nat) (p : PQ) (m m2 : PM) (w : World) (hp : p.n = np) (h1 : np ≤ 1000) (hb : ∀ j, j < np → p.rn j ≤ 1000 ∧ p.ln j ≤ 100000 ∧ ∀ i, i < p.rn j → p.rl j i ≤ 100000) (h0 : PfRow w ap p m) (h2 : PfRow w aq p m2) :
    Calls Tryd.prog 12 #[.agg #[.slice ap np cp], .agg #[.slice aq np cq]] w fun e w' => e = .returned (.bool true) ∧ Below w.heap.size w w' := by
  have hb1 := ((Below.refl w.heap.size w).alloc (Nat.le_refl _) (.cells #[.slice ap np cp] 33)).alloc (by simp) (.cells #[.slice aq np cq] 33)
  have HE := hid (spp_ok ap aq np cp cq p m m2 _ hp h1 hb (h0.kept hb1) (h2.kept hb1))
  have x0 : ((w.alloc (.cells #[.slice ap np cp] 33)).alloc (.cells #[.slice aq np cq] 33)).cell? ⟨w.heap.size, 0, none⟩ = some (.slice ap np cp) := by rw [World.cell?_alloc_old _ _ _ (by simp), World.cell?_alloc_new]; rfl
  have x1 : ((w.alloc (.cells #[.slice ap np cp] 33)).alloc (.cells #[.slice aq np cq] 33)).cell? ⟨w.heap.size + 1, 0, none⟩ = some (.slice aq np cq) := by
    have e : (w.alloc (.cells #[.slice ap np cp] 33)).heap.size = w.heap.size + 1 := by simp
    rw [← e, World.cell?_alloc_new]; rfl
  have HB1 := hid hb1
  clear hb h0 h2 hp hb1
  go_enter Tryd.func12, Tryd.ntmps12
  go_wp2_with fail
  refine (HE.out).mono ?_
  rintro e w1 ⟨rfl, hb⟩
  have HB2 := hid (HB1.out.trans (hb.mono HB1.out.size))
  clear hb x0 x1
  go_wp2_with fail
  go_ret
  exact ⟨rfl, HB2.out⟩

end Go.Proofs.YtpkdkgpfjpalnaaDoor

/-
  A contract of the law GkrProves, for every circuit and all lists: it answers true and writes nothing that was there.
-/
namespace Go.Proofs.YtpkdkgpfjpalnaaDoor
open Go.RowKit
set_option linter.unusedVariables false
attribute [local go_sem ↓] Go.wp_at_zero Go.wp_at_succ

/-- No parts. -/
def noneP : PQ := ⟨0, fun _ => 0, fun _ => 0, fun _ _ => 0, fun _ _ _ => 0, fun _ _ => 0⟩
def noneM : PM := ⟨fun _ => none, fun _ => none, fun _ => 0, fun _ => 0, fun _ _ => none, fun _ _ => 0⟩
theorem same_none (w : World) : Calls Tryd.prog 12 #[.agg #[.slice none 0 0], .agg #[.slice none 0 0]] w fun e w' => e = .returned (.bool true) ∧ Below w.heap.size w w' :=
  sameproof_ok none none 0 0 0 noneP noneM noneM w rfl (by omega) (fun j hj => absurd hj (by omega)) (fun h => absurd h (by show ¬ (0 < 0); omega)) (fun h => absurd h (by show ¬ (0 < 0); omega))
theorem right_sizes {c : CQ} (hc : c.right) (f D : Nat → Int) : ∀ j, j < (rightP c f D).n → (rightP c f D).rn j ≤ 1000 ∧ (rightP c f D).ln j ≤ 100000 ∧ ∀ i, i < (rightP c f D).rn j → (rightP c f D).rl j i ≤ 100000 := fun j _ => by
  have h := parts_lg hc (j + 1)
  refine ⟨?_, ?_, fun i _ => ?_⟩
  · show 2 * (partsQ c).lg (j + 1) ≤ 1000; omega
  · show (partsQ c).lg (j + 1) + 1 ≤ 100000; omega
  · show 3 ≤ 100000; omega
/-- A box of one cell. -/
theorem box_one (w : World) (v : Value) (t : TypeId) : (w.alloc (.cells #[v] t)).cell? ⟨w.heap.size, 0, none⟩ = some v := by rw [World.cell?_alloc_new]; rfl

set_option maxHeartbeats 8000000 in
set_option maxRecDepth 100000 in
theorem gproves_any (c : CQ) (g : Int) (ao : Option Addr) (n cap : Nat) (A : Nat → Option Addr) (C : Nat → Nat) (ai ad : Option Addr) (ni ci nd cd : Nat) (fi fd : Nat → Int) (w : World) (ht : Tab w) (hn63 : n ≤ maxLen) (hg : c.log = g) (hn : c.layers.length = n) (hr : CRow w ao c.layers A C) (hi : PRow w ai ni fi) (vi : Nums fi) (hd : PRow w ad nd fd) (vd : Nums fd) (hcd : nd ≤ cd) (hcm : cd ≤ maxLen) (n63 : ni ≤ maxLen) :
    Calls Tryd.prog 3 #[.agg #[.int .i64 g, .slice ao n cap], .slice ai ni ci, .slice ad nd cd] w fun e w' => e = .returned (.bool true) ∧ Below w.heap.size w w' := by
  have HS0 := hid (StW.start w g (.slice ao n cap) 24)
  have HCI := hid (fun W (h : Below w.heap.size w W) => rcirc_any c g ao n cap A C W hg hn (hr.kept h))
  have HSM := hid (fun W (h : Below w.heap.size w W) => small_law c g ao n cap A C W hn63 hg hn (hr.kept h))
  have HR := hid hr
  have HG := hid hg
  have HN := hid hn
  have HT := hid (fun W (h : Below w.heap.size w W) => ht.kept h ht.1)
  have HI := hid (And.intro hi vi)
  have HD := hid (And.intro hd vd)
  have HCD := hid (And.intro hcd hcm)
  have n63' : (ni : Int) ≤ 9223372036854775807 := by have : maxLen ≤ 9223372036854775807 := by decide
                                                     omega
  have d63' : (nd : Int) ≤ 9223372036854775807 := by have : maxLen ≤ 9223372036854775807 := by decide
                                                     omega
  clear hr hg hn ht hi vi hd vd hcd hcm n63 hn63
  obtain ⟨z0, z1, zl⟩ := HS0.out.box
  go_enter Tryd.func3, Tryd.ntmps3
  go_wp2_with fail
  obtain ⟨X, hX⟩ : ∃ X, w.heap.size = X := ⟨_, rfl⟩
  rw [hX] at HS0
  rw [hX]
  clear hX z0 z1 zl
  generalize w.alloc (.cells #[.int .i64 g, .slice ao n cap] 24) = W0 at HS0 ⊢
  refine (HCI.out _ HS0.out.bel).mono ?_
  rintro e w1 ⟨y, rfl, hy, hb⟩
  have HS1 := hid (HS0.out.next hb)
  have HYE := hid hy
  clear hb hy HS0 HCI
  obtain ⟨z0, z1, zl⟩ := HS1.out.box
  by_cases hy0 : y = 0
  · subst hy0
    have HC := hid (checkE_zero.1 HYE.out)
    obtain ⟨b, off, rfl⟩ := right_addr HC.out HR.out
    obtain ⟨gn, N, rfl, gn4, sh, hN, N1, N16, hNk⟩ := right_nums HG.out HN.out HC.out
    have HNL := hid hN
    have HSH := hid sh
    have q1 : 1 ≤ needQ c := by have h := at_fits (c := c) (j := 0) (List.length_pos_iff.2 HC.out.some); omega
    have q40 : needQ c ≤ 40 := needQ_le HC.out
    have HDR := hid (fun W (h : Below w.heap.size w W) => draws_ok c (gn : Int) b off n cap A C W HG.out HN.out (HR.out.kept h) HC.out)
    have HNE := hid (fun W (h : Below w.heap.size w W) => rneed_any c (gn : Int) b off n cap A C W HG.out HN.out (HR.out.kept h) HC.out)
    obtain ⟨Q, hQ⟩ : ∃ Q, needQ c = Q := ⟨_, rfl⟩
    rw [hQ] at HDR HNE q1 q40
    have HQ := hid hQ
    have gn0 : (0 : Int) ≤ (gn : Int) := by omega
    clear hN hNk hQ sh HYE
    go_wp2_with fail
    refine (HSM.out _ HS1.out.bel).mono ?_
    rintro e w2 ⟨r, rfl, hb⟩
    replace HS1 := hid (HS1.out.next hb)
    clear hb z0 z1 zl HSM
    obtain ⟨z0, z1, zl⟩ := HS1.out.box
    cases r with
    | false =>
      go_wp2_with fail
      go_ret
      exact ⟨rfl, HS1.out.bel⟩
    | true =>
      go_wp2_with fail
      refine (HDR.out _ HS1.out.bel).mono ?_
      rintro e w3 ⟨rfl, hb⟩
      replace HS1 := hid (HS1.out.next hb)
      clear hb z0 z1 zl
      obtain ⟨z0, z1, zl⟩ := HS1.out.box
      go_wp2_with fail
      refine (HNE.out _ HS1.out.bel).mono ?_
      rintro e w4 ⟨rfl, hb⟩
      replace HS1 := hid (HS1.out.next hb)
      clear hb z0 z1 zl HDR HNE
      obtain ⟨z0, z1, zl⟩ := HS1.out.box
      have HV := hid (box_one w4 (.slice none 0 0) 33)
      have HFV := hid (World.frozen?_alloc_new w4 #[.slice none 0 0] 33 0)
      have HS5 := hid (HS1.out.next (nbel w4 (.cells #[.slice none 0 0] 33)))
      obtain ⟨y0, y1, yl⟩ := HS5.out.box
      have sh := HSH.out
      by_cases hi : ni = N
      · subst hi
        have k1 : ((ni : Int) != (ni : Int)) = false := by simp
        obtain ⟨bi, oi, rfl, hri⟩ := HI.out.1 (by omega)
        have HRI := hid hri
        have HRU : Hid (∀ W, Below w.heap.size w W → Calls Tryd.prog 28 #[.agg #[.int .i64 (gn : Int), .slice (some ⟨b, off, none⟩) n cap], .slice (some ⟨bi, oi, none⟩) ni ci] W fun e w' => ∃ vv, e = .returned (.tuple #[vv, .int .i64 0]) ∧ Below W.heap.size W w') := hid (fun W h => (run_ok c gn b off n cap A C bi oi ni ci fi W HG.out HN.out (HR.out.kept h) HC.out HSH.out HNL.out N16 N1 (HRI.out.kept h (HRI.out.lt (by omega))) HI.out.2).mono (by
          rintro e w' ⟨V, D, he, ho⟩
          exact ⟨_, he, ho.below⟩))
        clear hri
        by_cases hdq : nd = Q
        · subst hdq
          have k2 : ((nd : Int) != (nd : Int)) = false := by simp
          obtain ⟨bd, od, rfl, hrd⟩ := HD.out.1 (by omega)
          have HRD := hid hrd
          clear hrd HRU
          have HPF := hid (fun W (h : Below w.heap.size w W) => rproof_any c (gn : Int) b off n cap A C bi oi ni ci fi bd od nd cd fd W HG.out HN.out (HR.out.kept h) HC.out HNL.out (HRI.out.kept h (HRI.out.lt (by omega))) HI.out.2 (HRD.out.kept h (HRD.out.lt (by omega))) HD.out.2 HQ.out.symm HCD.out.1 HCD.out.2)
          have HPV := hid (fun W (h : Below w.heap.size w W) => pv_ok c gn b off n cap A C bi oi ni ci fi bd od nd cd fd W HG.out HN.out (HR.out.kept h) HC.out HSH.out HNL.out (HRI.out.kept h (HRI.out.lt (by omega))) HI.out.2 (HRD.out.kept h (HRD.out.lt (by omega))) HD.out.2 HQ.out.symm HCD.out.1 HCD.out.2 (HT.out W h))
          obtain ⟨V, hV⟩ : ∃ V, w4.heap.size = V := ⟨_, rfl⟩
          obtain ⟨W5, hW5⟩ : ∃ W5, w4.alloc (.cells #[.slice none 0 0] 33) = W5 := ⟨_, rfl⟩
          rw [hW5] at HS5 HV HFV y0 y1 yl
          rw [hV] at HV HFV
          have HVL : Hid (w.heap.size ≤ V) := hid (by rw [← hV]; exact HS1.out.bel.size)
          have HXV : Hid (X ≠ V) := hid (by rw [← hV]; have := HS1.out.box.lt; omega)
          go_wp2_with fail
          clear hW5 hV
          refine (HPF.out _ HS5.out.bel).mono ?_
          rintro e w6 ⟨aP, cP, mP, rfl, hpf, hfr, hb⟩
          have HS6 := hid (HS5.out.next hb)
          have v6 := nkeep hb HV.out
          have f6 : w6.frozen? ⟨V, 0, none⟩ = false := (hb.frozen (World.block_lt_of_cell? W5 _ HV.out)).trans HFV.out
          have hVl : V < W5.heap.size := World.block_lt_of_cell? W5 _ HV.out
          have HP7 : Hid (PfRow (w6.setCell ⟨V, 0, none⟩ (.slice aP n cP)) aP (rightP c fi fd) mP) := hid (hpf.keepS (S := fun q => W5.heap.size ≤ q) hfr.1 (fun j hj => hfr.2 j (by rw [← HN.out]; exact hj)) (fun q hq => Below.heap_setCell _ _ _ _ (by show q ≠ V; omega)))
          have HV7 := hid (World.cell?_setCell_same w6 ⟨V, 0, none⟩ (.slice aP n cP) v6)
          have HS7 : Hid (StW w (w6.setCell ⟨V, 0, none⟩ (.slice aP n cP)) X (gn : Int) (.slice (some ⟨b, off, none⟩) n cap)) := hid ⟨HS6.out.bel.setCell HVL.out _, ⟨(World.cell?_setCell_other _ _ _ _ (by intro e; simp only [Addr.mk.injEq] at e; exact HXV.out e.1.symm)).trans HS6.out.box.c0, (World.cell?_setCell_other _ _ _ _ (by intro e; simp only [Addr.mk.injEq] at e; exact HXV.out e.1.symm)).trans HS6.out.box.c1, by rw [World.size_setCell]; exact HS6.out.box.lt⟩⟩
          clear hb y0 y1 yl HPF hpf hfr HS6 hVl
          obtain ⟨y0, y1, yl⟩ := HS7.out.box
          obtain ⟨W7, hW7⟩ : ∃ W7, w6.setCell ⟨V, 0, none⟩ (.slice aP n cP) = W7 := ⟨_, rfl⟩
          rw [hW7] at HS7 HP7 HV7 y0 y1 yl
          go_wp2_with fail
          clear hW7 v6 f6
          refine (HPV.out _ HS7.out.bel).mono ?_
          rintro e w8 ⟨PB, m8, rfl, hp8, _, hb⟩
          have HS8 := hid (HS7.out.next hb)
          have HP8 := hid hp8
          replace HP7 := hid (HP7.out.kept hb)
          replace HV7 := hid (nkeep hb HV7.out)
          clear hb hp8 y0 y1 yl HPV
          have b9 := nbel w8 (.cells #[.slice (some ⟨PB, 0, none⟩) n n] 33)
          have v9 := nkeep b9 HV7.out
          have u9 := box_one w8 (.slice (some ⟨PB, 0, none⟩) n n) 33
          have HS9 := hid (HS8.out.next b9)
          have HSP := hid (sameproof_ok (some ⟨PB, 0, none⟩) aP n n cP (rightP c fi fd) m8 mP _ HN.out (by have := HC.out.few; have := HN.out; omega) (fun j hj => right_sizes HC.out fi fd j (by show j < c.layers.length; rw [HN.out]; exact hj)) (HP8.out.kept b9) (HP7.out.kept b9))
          clear b9
          go_wp2_with fail
          refine (HSP.out).mono ?_
          rintro e w10 ⟨rfl, hb⟩
          have HS10 := hid (HS9.out.next hb)
          clear hb v9 u9
          go_wp2_with fail
          go_ret
          exact ⟨rfl, HS10.out.bel⟩
        · have k2 : ((nd : Int) != (Q : Int)) = true := by simp; omega
          have HPV := hid (fun W (h : Below w.heap.size w W) => pv_draws (gn : Int) (some ⟨b, off, none⟩) n cap (some ⟨bi, oi, none⟩) ni ci ad nd cd Q W hdq (hid (fun W2 h2 => HRU.out W2 (h.trans (h2.mono h.size)))) (hid (fun W2 h2 => by rw [← HQ.out]; exact cdraws_any c (gn : Int) b off n cap A C W2 HG.out HN.out (HR.out.kept (h.trans (h2.mono h.size))) HC.out)))
          obtain ⟨V, hV⟩ : ∃ V, w4.heap.size = V := ⟨_, rfl⟩
          obtain ⟨W5, hW5⟩ : ∃ W5, w4.alloc (.cells #[.slice none 0 0] 33) = W5 := ⟨_, rfl⟩
          rw [hW5] at HS5 HV y0 y1 yl
          rw [hV] at HV
          go_wp2_with fail
          clear hW5 hV
          refine (HPV.out _ HS5.out.bel).mono ?_
          rintro e w6 ⟨rfl, hb⟩
          have HS6 := hid (HS5.out.next hb)
          have HV6 := hid (nkeep hb HV.out)
          clear hb y0 y1 yl HPV
          have b7 := nbel w6 (.cells #[.slice none 0 0] 33)
          have v7 := nkeep b7 HV6.out
          have u7 := box_one w6 (.slice none 0 0) 33
          have HS7 := hid (HS6.out.next b7)
          clear b7
          go_wp2_with fail
          refine (same_none _).mono ?_
          rintro e w8 ⟨rfl, hb⟩
          have HS8 := hid (HS7.out.next hb)
          clear hb v7 u7
          go_wp2_with fail
          go_ret
          exact ⟨rfl, HS8.out.bel⟩
      · have k1 : ((ni : Int) != (N : Int)) = true := by simp; omega
        have HPV := hid (fun W (h : Below w.heap.size w W) => pv_run (gn : Int) (some ⟨b, off, none⟩) n cap ai ni ci ad nd cd 4 W (by omega) (hid (fun W2 h2 => run_form c gn (some ⟨b, off, none⟩) n cap A C ai ni ci N W2 HG.out HN.out (HR.out.kept (h.trans (h2.mono h.size))) HC.out HSH.out hi)))
        obtain ⟨V, hV⟩ : ∃ V, w4.heap.size = V := ⟨_, rfl⟩
        obtain ⟨W5, hW5⟩ : ∃ W5, w4.alloc (.cells #[.slice none 0 0] 33) = W5 := ⟨_, rfl⟩
        rw [hW5] at HS5 HV y0 y1 yl
        rw [hV] at HV
        go_wp2_with fail
        clear hW5 hV
        refine (HPV.out _ HS5.out.bel).mono ?_
        rintro e w6 ⟨rfl, hb⟩
        have HS6 := hid (HS5.out.next hb)
        have HV6 := hid (nkeep hb HV.out)
        clear hb y0 y1 yl HPV
        have b7 := nbel w6 (.cells #[.slice none 0 0] 33)
        have v7 := nkeep b7 HV6.out
        have u7 := box_one w6 (.slice none 0 0) 33
        have HS7 := hid (HS6.out.next b7)
        clear b7
        go_wp2_with fail
        refine (same_none _).mono ?_
        rintro e w8 ⟨rfl, hb⟩
        have HS8 := hid (HS7.out.next hb)
        clear hb v7 u7
        go_wp2_with fail
        go_ret
        exact ⟨rfl, HS8.out.bel⟩
  · have e1 : (y == 0) = false := beq_eq_false_iff_ne.2 hy0
    have e2 : (y != 0) = true := by simp [hy0]
    have HDR := hid (fun W (h : Below w.heap.size w W) => draws_bad c g ao n cap A C y W HG.out HN.out (HR.out.kept h) HYE.out hy0)
    have HPV := hid (fun W (h : Below w.heap.size w W) => pv_run g ao n cap ai ni ci ad nd cd y W hy0 (hid (fun W2 h2 => run_bad c g ao n cap A C ai ni ci y W2 HG.out HN.out (HR.out.kept (h.trans (h2.mono h.size))) HYE.out hy0)))
    go_wp2_with fail
    refine (HDR.out _ HS1.out.bel).mono ?_
    rintro e w3 ⟨rfl, hb⟩
    replace HS1 := hid (HS1.out.next hb)
    clear hb z0 z1 zl
    obtain ⟨z0, z1, zl⟩ := HS1.out.box
    go_wp2_with fail
    refine (HPV.out _ HS1.out.bel).mono ?_
    rintro e w4 ⟨rfl, hb⟩
    replace HS1 := hid (HS1.out.next hb)
    clear hb z0 z1 zl
    have u7 := box_one w4 (.slice none 0 0) 33
    have HS7 := hid (HS1.out.next (nbel w4 (.cells #[.slice none 0 0] 33)))
    go_wp2_with fail
    go_ret
    exact ⟨rfl, HS7.out.bel⟩

end Go.Proofs.YtpkdkgpfjpalnaaDoor
