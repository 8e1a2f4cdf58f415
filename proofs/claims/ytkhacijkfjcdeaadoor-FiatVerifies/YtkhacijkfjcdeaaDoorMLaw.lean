/-
  Several texts in one: CircOpen, RefGk2, RefI, RefAt, RefTold, RefGk3, Gkv1, RefDr, RefDr2, Fiv1, ListsOpen, PrfOpen; each opens with what it holds.
-/
import Derived.Test.YtkhacijkfjcdeaaDoorChecked
import Derived.Test.YtkhacijkfjcdeaaDoorCirc
import Derived.OpenShut
import Derived.Deep.Strs
import Derived.Deep.SlicePairs
import Derived.Test.YtkhacijkfjcdeaaDoorMRef
import Derived.Test.YtkhacijkfjcdeaaDoorRefA
import Derived.WalkKit
import Derived.Test.YtkhacijkfjcdeaaDoorPoly
import Derived.Test.YtkhacijkfjcdeaaDoorMem
import Derived.Deep.LoopGhost
import Derived.Deep.Light
import Derived.Test.YtkhacijkfjcdeaaDoorLists
import Derived.Test.YtkhacijkfjcdeaaDoorSums
import Derived.Test.YtkhacijkfjcdeaaDoorRefN
import Derived.Deep.RegionHeld3
import Derived.Deep.RegionWith
import Derived.Deep.OwnRows
import Derived.Deep.DrawnRows
import Derived.Deep.Quiet
import Derived.Deep.QuietTactic
import Derived.Test.YtkhacijkfjcdeaaDoorGkrH
import Derived.Deep.DeepCutAuto
import Derived.BigQuiet
import Derived.Test.YtkhacijkfjcdeaaDoorMGkB
import Derived.Test.YtkhacijkfjcdeaaDoorMFiat
import Derived.Deep.Matrix
import Derived.Test.YtkhacijkfjcdeaaDoorPrf
/-
  What a circuit that came in gives the walk.
-/
namespace Go.Proofs.YtkhacijkfjcdeaaDoor
open Go.ChangeShapes Go.WideShapes Go.RowKit Go.Deep
set_option linter.unusedVariables false

/-- Numbers of Go's int. -/
def I64 (a : Int) : Prop := -9223372036854775808 ≤ a ∧ a ≤ 9223372036854775807
theorem i64_of_wf {a : Int} (h : (Lit.int .i64 a).wf = true) : I64 a := by
  simp [Lit.wf, IntKind.min, IntKind.max, IntKind.signed, IntKind.bits] at h
  unfold I64
  omega
/-- A circuit that came in. -/
structure IsCirc (w : World) (g : Int) (a : Option Addr) (len cap : Nat) (c : CQ) (A : Nat → Option Addr) (C : Nat → Nat) : Prop where
  log : c.log = g
  logR : I64 g
  lenE : c.layers.length = len
  capE : len ≤ cap
  maxE : cap ≤ maxLen
  row : CRow w a c.layers A C
  rng : ∀ l ∈ c.layers, I64 l.log ∧ l.gates.length ≤ maxLen ∧ ∀ q ∈ l.gates, I64 q.a ∧ I64 q.b
theorem add_three (a : Addr) (i j : Nat) : (a.add (i * 3)).add j = a.add (3 * i + j) := by rw [add_add, Nat.mul_comm]
theorem add_two (a : Addr) (i j : Nat) : (a.add (i * 2)).add j = a.add (2 * i + j) := by rw [add_add, Nat.mul_comm]
theorem gate_cells : Tryd.prog.cellsOf 72 = 3 := by kernel_rfl
theorem layer_cells : Tryd.prog.cellsOf 35 = 2 := by kernel_rfl
theorem circ_cells : Tryd.prog.cellsOf 24 = 2 := by kernel_rfl
theorem int_cells : Tryd.prog.cellsOf 3 = 1 := by kernel_rfl
theorem bool_cells : Tryd.prog.cellsOf 4 = 1 := by kernel_rfl
theorem gates_cells : Tryd.prog.cellsOf 33 = 1 := by kernel_rfl
theorem layers_cells : Tryd.prog.cellsOf 22 = 1 := by kernel_rfl
theorem cell_spot {w : World} {a : Addr} {u : Value} (h : w.cell? (a.add 0) = some u) : ∃ b off, a = ⟨b, off, none⟩ := by
  obtain ⟨b, off, spot⟩ := a
  have hspot : spot = none := by simpa [Addr.add] using World.cell?_spot h
  subst hspot
  exact ⟨b, off, rfl⟩

section
variable {H : Type} {enc : TypeId × Value → H} {W : World} {base : Nat} {held : Bool}
set_option maxRecDepth 100000 in
theorem gates_of {fuel : Nat} {a : Option Addr} {len cap : Nat} {x : DataW H × List MemPlace}
    (h : DataW.trod enc Tryd.prog W base (fun _ => true) held fuel 33 [Value.slice a len cap] = some x) :
    ∃ gs : List GQ, gs.length = len ∧ len ≤ cap ∧ len ≤ maxLen ∧ GRow W a gs ∧ ∀ g ∈ gs, I64 g.a ∧ I64 g.b := by
  rcases open_slice Tryd.underlying33 h with ⟨hcs, _⟩ | ⟨a', len', cap', m, n, D, Pl, hcs, _, hl, hm, hmm, _, hx⟩
  · simp at hcs
    obtain ⟨rfl, rfl, rfl⟩ := hcs
    exact ⟨[], rfl, Nat.le_refl _, Nat.zero_le _, fun h => absurd rfl h, by simp⟩
  · simp at hcs
    obtain ⟨rfl, rfl, rfl⟩ := hcs
    simp only [if_true] at hmm
    have each : ∀ i, i < len → ∃ g : GQ, W.cell? (a'.add (3 * i)) = some (.bool g.mul) ∧ W.cell? (a'.add (3 * i + 1)) = some (.int .i64 g.a) ∧ W.cell? (a'.add (3 * i + 2)) = some (.int .i64 g.b) ∧ I64 g.a ∧ I64 g.b := by
      intro i hi
      obtain ⟨cs', h1, h2⟩ := hx i (by omega)
      rw [gate_cells] at h1
      obtain ⟨_, hlen, hcell⟩ := World.cells?_some h1
      obtain ⟨y0, y1, y2, k, _, _, g0, g1, g2⟩ := trod_struct3 Tryd.underlying72 h2
      match cs', hlen with
      | [v0, v1, v2], _ =>
        simp [int_cells, bool_cells] at g0 g1 g2
        obtain ⟨b, e0, _⟩ := DataW.trod_bool Tryd.underlying4 g0
        obtain ⟨p, e1, _, r1⟩ := DataW.trod_int Tryd.underlying3 g1
        obtain ⟨q, e2, _, r2⟩ := DataW.trod_int Tryd.underlying3 g2
        simp at e0 e1 e2
        subst e0
        subst e1
        subst e2
        have c0 := hcell 0 (by omega)
        have c1 := hcell 1 (by omega)
        have c2 := hcell 2 (by omega)
        rw [add_three] at c0 c1 c2
        exact ⟨⟨b, p, q⟩, by simpa using c0, by simpa using c1, by simpa using c2, i64_of_wf r1, i64_of_wf r2⟩
    haveI : Inhabited GQ := ⟨⟨false, 0, 0⟩⟩
    obtain ⟨f, hf⟩ := choose_lt each
    have hg : ∀ j g, ((List.range len).map f)[j]? = some g → j < len ∧ g = f j := by
      intro j g e
      by_cases hj : j < len
      · simp [hj] at e; exact ⟨hj, e.symm⟩
      · simp [hj] at e
    refine ⟨(List.range len).map f, by simp, hl, Nat.le_trans hl hm, fun hne => ?_, fun g hg2 => ?_⟩
    · have h0 : 0 < len := by
        rcases Nat.eq_zero_or_pos len with e | e
        · rw [e] at hne; simp at hne
        · exact e
      obtain ⟨b, off, rfl⟩ := cell_spot (by simpa using (hf 0 h0).1)
      refine ⟨b, off, rfl, fun j g e => ?_⟩
      obtain ⟨hj, rfl⟩ := hg j g e
      obtain ⟨c0, c1, c2, _⟩ := hf j hj
      rw [Addr.add_lit] at c0 c1 c2
      exact ⟨c0, c1, c2⟩
    · obtain ⟨j, hj, rfl⟩ := List.mem_map.1 hg2
      exact (hf j (List.mem_range.1 hj)).2.2.2
set_option maxRecDepth 100000 in
theorem layers_of {fuel : Nat} {a : Option Addr} {len cap : Nat} {x : DataW H × List MemPlace}
    (h : DataW.trod enc Tryd.prog W base (fun _ => true) held fuel 22 [Value.slice a len cap] = some x) :
    ∃ (ls : List LQ) (A : Nat → Option Addr) (C : Nat → Nat), ls.length = len ∧ len ≤ cap ∧ cap ≤ maxLen ∧ CRow W a ls A C ∧ ∀ l ∈ ls, I64 l.log ∧ l.gates.length ≤ maxLen ∧ ∀ q ∈ l.gates, I64 q.a ∧ I64 q.b := by
  rcases open_slice Tryd.underlying22 h with ⟨hcs, _⟩ | ⟨a', len', cap', m, n, D, Pl, hcs, _, hl, hm, hmm, _, hx⟩
  · simp at hcs
    obtain ⟨rfl, rfl, rfl⟩ := hcs
    exact ⟨[], fun _ => none, fun _ => 0, rfl, Nat.le_refl _, Nat.zero_le _, fun h => absurd rfl h, by simp⟩
  · simp at hcs
    obtain ⟨rfl, rfl, rfl⟩ := hcs
    simp only [if_true] at hmm
    have each : ∀ i, i < len → ∃ y : LQ × Option Addr × Nat, W.cell? (a'.add (2 * i)) = some (.int .i64 y.1.log) ∧ W.cell? (a'.add (2 * i + 1)) = some (.slice y.2.1 y.1.gates.length y.2.2) ∧ GRow W y.2.1 y.1.gates ∧ y.1.gates.length ≤ y.2.2 ∧
        I64 y.1.log ∧ y.1.gates.length ≤ maxLen ∧ ∀ q ∈ y.1.gates, I64 q.a ∧ I64 q.b := by
      intro i hi
      obtain ⟨cs', h1, h2⟩ := hx i (by omega)
      rw [layer_cells] at h1
      obtain ⟨_, hlen, hcell⟩ := World.cells?_some h1
      obtain ⟨y0, y1, k, _, _, g0, g1⟩ := trod_struct2 Tryd.underlying35 h2
      match cs', hlen with
      | [v0, v1], _ =>
        simp [int_cells, gates_cells] at g0 g1
        obtain ⟨p, e0, _, r0⟩ := DataW.trod_int Tryd.underlying3 g0
        simp at e0
        subst e0
        obtain ⟨ga, gl, gc, rfl⟩ : ∃ ga gl gc, v1 = .slice ga gl gc := by
          rcases open_slice Tryd.underlying33 g1 with ⟨e, _⟩ | ⟨_, _, _, _, _, _, _, e, _⟩
          · simp at e; exact ⟨_, _, _, e⟩
          · simp at e; exact ⟨_, _, _, e⟩
        obtain ⟨gs, e1, e2, e3, e4, e5⟩ := gates_of g1
        have c0 := hcell 0 (by omega)
        have c1 := hcell 1 (by omega)
        rw [add_two] at c0 c1
        exact ⟨(⟨p, gs⟩, ga, gc), by simpa using c0, by simpa [e1] using c1, e4, by rw [e1]; exact e2, i64_of_wf r0, by rw [e1]; exact e3, e5⟩
    haveI : Inhabited (LQ × Option Addr × Nat) := ⟨(⟨0, []⟩, none, 0)⟩
    obtain ⟨f, hf⟩ := choose_lt each
    have hg : ∀ j g, ((List.range len).map fun i => (f i).1)[j]? = some g → j < len ∧ g = (f j).1 := by
      intro j g e
      by_cases hj : j < len
      · simp [hj] at e; exact ⟨hj, e.symm⟩
      · simp [hj] at e
    refine ⟨(List.range len).map fun i => (f i).1, fun i => (f i).2.1, fun i => (f i).2.2, by simp, hl, hm, fun hne => ?_, fun g hg2 => ?_⟩
    · have h0 : 0 < len := by
        rcases Nat.eq_zero_or_pos len with e | e
        · rw [e] at hne; simp at hne
        · exact e
      obtain ⟨b, off, rfl⟩ := cell_spot (by simpa using (hf 0 h0).1)
      refine ⟨b, off, rfl, fun j g e => ?_⟩
      obtain ⟨hj, rfl⟩ := hg j g e
      obtain ⟨c0, c1, c2, c3, _⟩ := hf j hj
      rw [Addr.add_lit] at c0 c1
      exact ⟨c0, c1, c2, c3⟩
    · obtain ⟨j, hj, rfl⟩ := List.mem_map.1 hg2
      exact (hf j (List.mem_range.1 hj)).2.2.2.2
set_option maxRecDepth 100000 in
theorem circ_val {v : Value} {d : DataW H} {p : List MemPlace} (hv : Value.okWide Tryd.prog W .any base 24 v) (h : DataW.Trod enc Tryd.prog W 0 (fun _ => true) true 24 v d p) :
    ∃ g a len cap, v = .agg #[.int .i64 g, .slice a len cap] := by
  obtain ⟨cs, rfl, hs⟩ := okWide_struct Tryd.underlying24 hv
  obtain ⟨fuel, hf⟩ := h
  obtain ⟨y0, y1, k, _, _, g0, g1⟩ := trod_struct2 Tryd.underlying24 hf
  rw [circ_cells] at hs
  obtain ⟨l⟩ := cs
  match l, hs with
  | [v0, v1], _ =>
    simp [Value.cells, int_cells, layers_cells] at g0 g1
    obtain ⟨p, e0, _, _⟩ := DataW.trod_int Tryd.underlying3 g0
    simp at e0
    subst e0
    rcases open_slice Tryd.underlying22 g1 with ⟨e, _⟩ | ⟨_, _, _, _, _, _, _, e, _⟩
    · simp at e; exact ⟨_, _, _, _, by rw [e]⟩
    · simp at e; exact ⟨_, _, _, _, by rw [e]⟩
set_option maxRecDepth 100000 in
theorem circ_of {g : Int} {a : Option Addr} {len cap : Nat} {d : DataW H} {p : List MemPlace} (h : DataW.Trod enc Tryd.prog W 0 (fun _ => true) true 24 (.agg #[.int .i64 g, .slice a len cap]) d p) :
    ∃ c A C, IsCirc W g a len cap c A C := by
  obtain ⟨fuel, hf⟩ := h
  obtain ⟨y0, y1, k, _, _, g0, g1⟩ := trod_struct2 Tryd.underlying24 hf
  simp [Value.cells, int_cells, layers_cells] at g0 g1
  obtain ⟨p, e0, _, r0⟩ := DataW.trod_int Tryd.underlying3 g0
  simp at e0
  subst e0
  obtain ⟨ls, A, C, e1, e2, e3, e4, e5⟩ := layers_of g1
  exact ⟨⟨g, ls⟩, A, C, rfl, i64_of_wf r0, e1, e2, e3, e4, e5⟩
end

end Go.Proofs.YtkhacijkfjcdeaaDoor

/-
  The document's own Need, line and Shaped, together.
-/
namespace Go.Proofs.YtkhacijkfjcdeaaDoor
end Go.Proofs.YtkhacijkfjcdeaaDoor

/-
  Contracts of the document's own answer on numbers (package tallyref: Inv of a number whose rest is not 0), each for every input: they answer what the functions of the text Ops tell, and leave the world as it was.
-/
namespace Go.Proofs.YtkhacijkfjcdeaaDoor
open Go.RowKit
set_option linter.unusedVariables false

set_option maxHeartbeats 1000000 in
theorem rinv_any (a : Int) (w : World) (h0 : 0 ≤ a) (h1 : a ≤ 18446744073709551615) (hz : nrm a ≠ 0) :
    Calls Tryd.prog 81 #[.int .u64 a] w fun e w' => e = .returned (.int .u64 (invQ a)) ∧ w' = w := by
  have HZ := hid hz
  clear hz
  go_enter Tryd.func81, Tryd.ntmps81
  go_wp2_with fail
  go_loop [3, 4, 5, 6] (fun r m x t => ∃ (R M : Nat) (X T : Int), r = .int .u64 R ∧ m = .int .u64 M ∧ x = .int .u64 X ∧ t = .int .u64 T ∧ R ≤ 2305843009213693951 ∧ M ≤ 2305843009213693951 ∧ 0 ≤ X ∧ X ≤ 2305843009213693950 ∧ 0 ≤ T ∧ T ≤ 2305843009213693950 ∧ Hid (Nat.gcd R M = 1) ∧ Hid (mulQ X a = nrm R) ∧ Hid (mulQ T a = nrm M)) (fun _ m _ _ => (intOf m).toNat)
  case atStart =>
    obtain ⟨r0, r1⟩ := nrm_rng a
    refine ⟨2305843009213693951, (nrm a).toNat, 0, 1, rfl, ?_, rfl, rfl, by omega, by omega, by omega, by omega, by omega, by omega, hid (coprimeQ a h0 HZ.out), hid ?_, hid ?_⟩
    · rw [Int.toNat_of_nonneg r0]; rfl
    · rw [mulQ_comm, mulQ_zero]; rfl
    · rw [Int.toNat_of_nonneg r0, mulQ_comm, mulQ_one, nrm_in r0 r1]
  case round =>
    obtain ⟨R, M, X, T, rfl, rfl, rfl, rfl, hR, hM, x0, x1, t0, t1, HG, HX, HT⟩ := hrel
    by_cases hm : M = 0
    · subst hm
      go_wp2_with fail
      go_ret
      refine ⟨ret_u64 (inv_only a X h0 HZ.out x0 x1 ?_), rfl⟩
      have e := HG.out
      rw [Nat.gcd_zero_right] at e
      rw [HX.out, e]; rfl
    · have hb : ((M : Int) != 0) = true := by rw [bne_iff_ne]; omega
      obtain ⟨d0, d1, d2, d3⟩ := quo_rng R M hR
      have hm1 : (1 : Int) ≤ (M : Int) := by omega
      obtain ⟨u0, u1⟩ := mulQ_rng ((R : Int) / (M : Int)) T
      obtain ⟨v0, v1⟩ := subQ_rng X (mulQ ((R : Int) / (M : Int)) T)
      have hlt : R % M < M := Nat.mod_lt R (by omega)
      go_wp2_with (first | (go_at_call 52; refine (rmul_any _ _ _ (by omega) (by omega) (by omega) (by omega)).mono ?_; rintro e w' ⟨rfl, rfl⟩) | (go_at_call 80; refine (rsub_any _ _ _ (by omega) (by omega) (by omega) (by omega)).mono ?_; rintro e w' ⟨rfl, rfl⟩))
      go_round
      case rel => exact ⟨M, R % M, T, _, rfl, by rw [rest_cast], rfl, rfl, by omega, by omega, t0, t1, v0, v1, hid (gcd_step R M HG.out), HT, hid (euclid_step a X T R M HX.out HT.out)⟩
      case measure => simp only [intOf]; rw [rest_cast]; omega

end Go.Proofs.YtkhacijkfjcdeaaDoor

/-
  Contracts of the document's own answers for polynomials, tallyref's At (LAGRANGE's sum), for every row of numbers; nothing is written.
-/
namespace Go.Proofs.YtkhacijkfjcdeaaDoor
open Go.RowKit
set_option linter.unusedVariables false

theorem up_hit (x : Int) (i : Nat) (u : Int) : upQ x i u (i + 1) = upQ x i u i := by rw [upQ, if_pos rfl]
theorem up_miss (x : Int) (i : Nat) (u : Int) (k : Nat) (h : k ≠ i) : upQ x i u (k + 1) = mulQ (upQ x i u k) (subQ x k) := by rw [upQ, if_neg h]
theorem und_hit (i : Nat) : undQ i (i + 1) = undQ i i := by rw [undQ, if_pos rfl]
theorem und_miss (i k : Nat) (h : k ≠ i) : undQ i (k + 1) = mulQ (undQ i k) (subQ i k) := by rw [undQ, if_neg h]
theorem und_ne (i n : Nat) (hi : i < n) (hn : n ≤ 100000) : nrm (undQ i n) ≠ 0 := nrm_ne (by rw [kk_undQ]; exact prodK_ne i n (by omega) (by omega))

set_option maxHeartbeats 4000000 in
set_option maxRecDepth 100000 in
theorem rat_any (b off n cap : Nat) (v : Nat → Int) (x : Int) (w : World) (hn : n ≤ 100000) (hr : Row w b off n v) (hv : Nums v) (x0 : 0 ≤ x) (x1 : x ≤ 18446744073709551615) :
    Calls Tryd.prog 45 #[.slice (some ⟨b, off, none⟩) n cap, .int .u64 x] w fun e w' => e = .returned (.int .u64 (atQ v n x)) ∧ w' = w := by
  have HR := hid hr
  have HV := hid hv
  clear hr hv
  go_enter Tryd.func45, Tryd.ntmps45
  go_wp2_with fail
  go_loopg [5, 6] n (fun g o i wr => ∃ (k : Nat) (y : Int), k ≤ n ∧ g = n - k ∧ o = .int .u64 y ∧ i = .int .i64 (k : Int) ∧ 0 ≤ y ∧ y ≤ 2305843009213693950 ∧ Hid (y = lagQ v n x k) ∧ wr = w)
  case atStart => exact ⟨0, 0, by omega, rfl, rfl, rfl, by omega, by omega, hid rfl, rfl⟩
  case round =>
    obtain ⟨i, y, hi, rfl, rfl, rfl, y0, y1, HY, hw⟩ := hrel
    obtain rfl := hw.symm
    by_cases hlt : i < n
    · have c1 := HR.out i hlt
      obtain ⟨a, ha⟩ : ∃ a, v i = a := ⟨_, rfl⟩
      have ba := HV.out i
      rw [ha] at c1 ba
      obtain ⟨a0, a1⟩ := ba
      have HA := hid ha
      clear ha
      go_wp2_with fail
      go_loopg [7, 8, 9] n (fun g u d t wr => ∃ (k : Nat) (p q : Int), k ≤ n ∧ g = n - k ∧ u = .int .u64 p ∧ d = .int .u64 q ∧ t = .int .i64 (k : Int) ∧ 0 ≤ p ∧ p ≤ 18446744073709551615 ∧ 0 ≤ q ∧ q ≤ 2305843009213693950 ∧ Hid (p = upQ x i a k) ∧ Hid (q = undQ i k) ∧ wr = w)
      case atStart => exact ⟨0, a, 1, by omega, rfl, rfl, rfl, rfl, a0, a1, by omega, by omega, hid rfl, hid rfl, rfl⟩
      case round =>
        obtain ⟨k, p, q, hk, rfl, rfl, rfl, rfl, p0, p1, q0, q1, HP, HD, hw⟩ := hrel
        obtain rfl := hw.symm
        by_cases hlk : k < n
        · by_cases hki : k = i
          · subst hki
            go_wp2_with fail
            go_roundg (n - (k + 1))
            case measure => go_light; omega
            case rel => exact ⟨k + 1, p, q, by omega, rfl, rfl, rfl, by go_num, p0, p1, q0, q1, hid (by rw [up_hit]; exact HP.out), hid (by rw [und_hit]; exact HD.out), rfl⟩
          · have hb : ((k : Int) != (i : Int)) = true := bne_iff_ne.2 (by omega)
            obtain ⟨s0, s1⟩ := subQ_rng x (k : Int)
            obtain ⟨t0, t1⟩ := subQ_rng (i : Int) (k : Int)
            go_wp2_with (first | (go_at_call 52; refine (rmul_any _ _ _ (by omega) (by omega) (by omega) (by omega)).mono ?_; rintro e w' ⟨rfl, hw⟩; obtain rfl := hw.symm) | (go_at_call 80; refine (rsub_any _ _ _ (by omega) (by omega) (by omega) (by omega)).mono ?_; rintro e w' ⟨rfl, hw⟩; obtain rfl := hw.symm))
            go_roundg (n - (k + 1))
            case measure => go_light; omega
            case rel => exact ⟨k + 1, _, _, by omega, rfl, rfl, rfl, by go_num, (mulQ_rng _ _).1, by have := (mulQ_rng p (subQ x k)).2; omega, (mulQ_rng _ _).1, (mulQ_rng _ _).2, hid (by rw [up_miss x i a k hki, HP.out]), hid (by rw [und_miss i k hki, HD.out]), rfl⟩
        · have e : k = n := by omega
          subst e
          have HZ : Hid (nrm q ≠ 0) := hid (by rw [HD.out]; exact und_ne i k hlt hn)
          have HI := hid (fun w => rinv_any q w q0 (by omega) HZ.out)
          obtain ⟨s0, s1⟩ := invQ_rng q
          obtain ⟨t0, t1⟩ := mulQ_rng p (invQ q)
          go_wp2_with (first | (go_at_call 81; refine (HI.out _).mono ?_; rintro e w' ⟨rfl, hw⟩; obtain rfl := hw.symm) | (go_at_call 52; refine (rmul_any _ _ _ (by omega) (by omega) (by omega) (by omega)).mono ?_; rintro e w' ⟨rfl, hw⟩; obtain rfl := hw.symm) | (go_at_call 53; refine (radd_any _ _ _ (by omega) (by omega) (by omega) (by omega)).mono ?_; rintro e w' ⟨rfl, hw⟩; obtain rfl := hw.symm))
          go_roundg (k - (i + 1))
          case measure => go_light; omega
          case rel => exact ⟨i + 1, _, by omega, rfl, rfl, by go_num, (addQ_rng _ _).1, (addQ_rng _ _).2, hid (by rw [lagQ, HA.out, HY.out, HP.out, HD.out]), rfl⟩
    · have e : i = n := by omega
      subst e
      go_wp2_with fail
      go_ret
      exact ⟨ret_u64 HY.out, rfl⟩

end Go.Proofs.YtkhacijkfjcdeaaDoor

/-
  A contract of tallyref's Told: for every claim, every list of at most 1000 rounds of as many values (2 to 1000) and as many draws: what is claimed at last, or the first round that does not fit; nothing is written.
-/
namespace Go.Proofs.YtkhacijkfjcdeaaDoor
open Go.RowKit
set_option linter.unusedVariables false
attribute [local go_sem ↓] Go.wp_at_zero Go.wp_at_succ

set_option maxHeartbeats 8000000 in
set_option maxRecDepth 100000 in
theorem told_ok (ao ad : Option Addr) (m cap cd c : Nat) (A : Nat → Option Addr) (L C : Nat → Nat) (F : Nat → Nat → Int) (D : Nat → Int) (claim : Int) (w : World) (hm : m ≤ 1000) (hc2 : 2 ≤ c) (hc : c ≤ 1000) (h0 : 0 ≤ claim) (h1 : claim ≤ 18446744073709551615)
    (hl : LRow w ao m A L C F) (hL : ∀ i, i < m → L i = c) (hF : ∀ i, i < m → Nums (F i)) (hd : PRow w ad m D) (hD : Nums D) (hall : ∀ k, k < m → addQ (F k 0) (F k 1) = nrm (toldQ claim F c D k)) :
    Calls Tryd.prog 42 #[.int .u64 claim, .slice ao m cap, .slice ad m cd] w fun e w' => e = .returned (.tuple #[.int .u64 (nrm (toldQ claim F c D m)), .bool true]) ∧ Below w.heap.size w w' := by
  have HL := hid hl
  have HLL := hid hL
  have HF := hid hF
  have HD := hid hd
  have HDD := hid hD
  have HA := hid hall
  have HT := hid (toldQ_rng h0 h1 F c D)
  clear hl hL hF hd hD hall
  go_enter Tryd.func42, Tryd.ntmps42
  go_wp2_with fail
  go_loopg [0, 8] m (fun q x i wr => ∃ (k : Nat) (z : Int), k ≤ m ∧ q = m - k ∧ x = .int .u64 z ∧ i = .int .i64 (k : Int) ∧ 0 ≤ z ∧ z ≤ 18446744073709551615 ∧ Hid (z = toldQ claim F c D k) ∧ Hid (LRow wr ao m A L C F) ∧ Hid (PRow wr ad m D) ∧ Hid (Below w.heap.size w wr))
  case atStart => exact ⟨0, claim, by omega, rfl, rfl, rfl, h0, h1, hid rfl, HL, HD, hid (Below.refl _ _)⟩
  case round =>
    clear HL HD
    obtain ⟨k, z, hk, rfl, rfl, rfl, z0, z1, HZ, HL, HD, HB⟩ := hrel
    by_cases hlt : k < m
    · obtain ⟨b, off, rfl, hr⟩ := HL.out (by omega)
      obtain ⟨bd, od, rfl, hrd⟩ := HD.out (by omega)
      have cl := (hr k hlt).1
      obtain ⟨br, or, eA, hrr⟩ := (hr k hlt).2 (by rw [HLL.out k hlt]; omega)
      rw [eA, HLL.out k hlt] at cl
      rw [HLL.out k hlt] at hrr
      have c0 := hrr 0 (by omega)
      have c1 := hrr 1 (by omega)
      have cdr := hrd k hlt
      rw [Nat.add_zero] at c0
      obtain ⟨f0, e0⟩ : ∃ y, F k 0 = y := ⟨_, rfl⟩
      obtain ⟨f1, e1⟩ : ∃ y, F k 1 = y := ⟨_, rfl⟩
      obtain ⟨dk, ed⟩ : ∃ y, D k = y := ⟨_, rfl⟩
      have b0 := HF.out k hlt 0
      have b1 := HF.out k hlt 1
      have bD := HDD.out k
      have hfit := HA.out k hlt
      rw [e0] at c0 b0 hfit
      rw [e1] at c1 b1 hfit
      rw [ed] at cdr bD
      rw [← HZ.out] at hfit
      obtain ⟨b00, b01⟩ := b0
      obtain ⟨b10, b11⟩ := b1
      obtain ⟨bd0, bd1⟩ := bD
      have hb : (addQ f0 f1 != nrm z) = false := by rw [hfit]; simp
      have HRR := hid hrr
      have hat := fun w' (h : Row w' br or c (F k)) => rat_any br or c (C k) (F k) dk w' (by omega) h (HF.out k hlt) bd0 bd1
      have hat2 : toldQ claim F c D (k + 1) = atQ (F k) c dk := by rw [← ed]; rfl
      have HNX := hid hat2
      obtain ⟨a0, a1⟩ := atQ_rng (F k) c dk
      generalize atQ (F k) c dk = y at hat hat2 HNX a0 a1
      have HAT := hid hat
      clear hr hrd hrr hfit hat hat2 eA e0 e1 ed
      have k0 : (0 : Int) ≤ (k : Int) := by omega
      have k1 : (k : Int) < (m : Int) := by omega
      have cc0 : (0 : Int) < (c : Int) := by omega
      have cc1 : (1 : Int) < (c : Int) := by omega
      have cn0 : 0 < c := by omega
      have cn1 : 1 < c := by omega
      have cn2 : ¬ c = 0 := by omega
      have cn3 : ¬ c ≤ 1 := by omega
      go_wp2_with fail
      go_quiet (first | (go_at_call 53; exact Calls.quiet_of_same (radd_any _ _ _ (by omega) (by omega) (by omega) (by omega))) | (go_at_call 43; exact Calls.quiet_of_same (rnorm_any _ _ (by omega) (by omega))))
      go_wp2_with fail
      go_region_with (first | (go_at_call 45; refine (HAT.out _ (by exact HRR.out)).mono ?_; rintro e w' ⟨rfl, hw⟩; obtain rfl := hw.symm))
      all_goals (go_wp2_with fail)
      all_goals (go_roundg (m - (k + 1)))
      all_goals first | (go_light; omega) | (exact ⟨k + 1, y, by omega, rfl, rfl, by go_num, a0, by omega, hid HNX.out.symm, hid (by exact HL.out), hid (by exact HD.out), hid (by exact ⟨HB.out.os, HB.out.tape, HB.out.output, HB.out.size, HB.out.block⟩)⟩)
    · have e : k = m := by omega
      subst e
      go_wp2_with (go_at_call 43; refine (rnorm_any _ _ (by omega) (by omega)).mono ?_; rintro e w' ⟨rfl, hw⟩; obtain rfl := hw.symm)
      go_ret2
      exact ⟨by rw [HZ.out]; rfl, HB.out⟩

set_option maxHeartbeats 8000000 in
set_option maxRecDepth 100000 in
theorem told_bad (ao ad : Option Addr) (m cap cd c : Nat) (A : Nat → Option Addr) (L C : Nat → Nat) (F : Nat → Nat → Int) (D : Nat → Int) (claim : Int) (w : World) (hm : m ≤ 1000) (hc2 : 2 ≤ c) (hc : c ≤ 1000) (h0 : 0 ≤ claim) (h1 : claim ≤ 18446744073709551615)
    (hl : LRow w ao m A L C F) (hL : ∀ i, i < m → L i = c) (hF : ∀ i, i < m → Nums (F i)) (hd : PRow w ad m D) (hD : Nums D) (t : Nat) (ht : t < m) (hall : ∀ k, k < t → addQ (F k 0) (F k 1) = nrm (toldQ claim F c D k)) (hno : addQ (F t 0) (F t 1) ≠ nrm (toldQ claim F c D t)) :
    Calls Tryd.prog 42 #[.int .u64 claim, .slice ao m cap, .slice ad m cd] w fun e w' => e = .returned (.tuple #[.int .u64 0, .bool false]) ∧ Below w.heap.size w w' := by
  have HL := hid hl
  have HLL := hid hL
  have HF := hid hF
  have HD := hid hd
  have HDD := hid hD
  have HA := hid hall
  have HNO := hid hno
  have HT := hid (toldQ_rng h0 h1 F c D)
  clear hl hL hF hd hD hall hno
  go_enter Tryd.func42, Tryd.ntmps42
  go_wp2_with fail
  go_loopg [0, 8] m (fun q x i wr => ∃ (k : Nat) (z : Int), k ≤ t ∧ q = m - k ∧ x = .int .u64 z ∧ i = .int .i64 (k : Int) ∧ 0 ≤ z ∧ z ≤ 18446744073709551615 ∧ Hid (z = toldQ claim F c D k) ∧ Hid (LRow wr ao m A L C F) ∧ Hid (PRow wr ad m D) ∧ Hid (Below w.heap.size w wr))
  case atStart => exact ⟨0, claim, by omega, rfl, rfl, rfl, h0, h1, hid rfl, HL, HD, hid (Below.refl _ _)⟩
  case round =>
    clear HL HD
    obtain ⟨k, z, hk, rfl, rfl, rfl, z0, z1, HZ, HL, HD, HB⟩ := hrel
    have hlt : k < m := by omega
    obtain ⟨b, off, rfl, hr⟩ := HL.out (by omega)
    obtain ⟨bd, od, rfl, hrd⟩ := HD.out (by omega)
    have cl := (hr k hlt).1
    obtain ⟨br, or, eA, hrr⟩ := (hr k hlt).2 (by rw [HLL.out k hlt]; omega)
    rw [eA, HLL.out k hlt] at cl
    rw [HLL.out k hlt] at hrr
    have c0 := hrr 0 (by omega)
    have c1 := hrr 1 (by omega)
    have cdr := hrd k hlt
    rw [Nat.add_zero] at c0
    obtain ⟨f0, e0⟩ : ∃ y, F k 0 = y := ⟨_, rfl⟩
    obtain ⟨f1, e1⟩ : ∃ y, F k 1 = y := ⟨_, rfl⟩
    obtain ⟨dk, ed⟩ : ∃ y, D k = y := ⟨_, rfl⟩
    have b0 := HF.out k hlt 0
    have b1 := HF.out k hlt 1
    have bD := HDD.out k
    rw [e0] at c0 b0
    rw [e1] at c1 b1
    rw [ed] at cdr bD
    obtain ⟨b00, b01⟩ := b0
    obtain ⟨b10, b11⟩ := b1
    obtain ⟨bd0, bd1⟩ := bD
    have HRR := hid hrr
    have hat := fun w' (h : Row w' br or c (F k)) => rat_any br or c (C k) (F k) dk w' (by omega) h (HF.out k hlt) bd0 bd1
    have hat2 : toldQ claim F c D (k + 1) = atQ (F k) c dk := by rw [← ed]; rfl
    have HNX := hid hat2
    obtain ⟨a0, a1⟩ := atQ_rng (F k) c dk
    generalize atQ (F k) c dk = y at hat hat2 HNX a0 a1
    have HAT := hid hat
    have E0 := hid e0
    have E1 := hid e1
    clear hr hrd hrr hat hat2 eA e0 e1 ed
    have k0 : (0 : Int) ≤ (k : Int) := by omega
    have k1 : (k : Int) < (m : Int) := by omega
    have cc0 : (0 : Int) < (c : Int) := by omega
    have cc1 : (1 : Int) < (c : Int) := by omega
    have cn0 : 0 < c := by omega
    have cn1 : 1 < c := by omega
    have cn2 : ¬ c = 0 := by omega
    have cn3 : ¬ c ≤ 1 := by omega
    by_cases hkt : k < t
    · have hfit := HA.out k hkt
      rw [E0.out, E1.out, ← HZ.out] at hfit
      have hb : (addQ f0 f1 != nrm z) = false := by rw [hfit]; simp
      clear hfit
      go_wp2_with fail
      go_quiet (first | (go_at_call 53; exact Calls.quiet_of_same (radd_any _ _ _ (by omega) (by omega) (by omega) (by omega))) | (go_at_call 43; exact Calls.quiet_of_same (rnorm_any _ _ (by omega) (by omega))))
      go_wp2_with fail
      go_region_with (first | (go_at_call 45; refine (HAT.out _ (by exact HRR.out)).mono ?_; rintro e w' ⟨rfl, hw⟩; obtain rfl := hw.symm))
      all_goals (go_wp2_with fail)
      all_goals (go_roundg (m - (k + 1)))
      all_goals first | (go_light; omega) | (exact ⟨k + 1, y, by omega, rfl, rfl, by go_num, a0, by omega, hid HNX.out.symm, hid (by exact HL.out), hid (by exact HD.out), hid (by exact ⟨HB.out.os, HB.out.tape, HB.out.output, HB.out.size, HB.out.block⟩)⟩)
    · obtain rfl : k = t := by omega
      have hne := HNO.out
      rw [E0.out, E1.out, ← HZ.out] at hne
      have hb : (addQ f0 f1 != nrm z) = true := bne_iff_ne.2 hne
      clear hne
      go_wp2_with fail
      go_quiet (first | (go_at_call 53; exact Calls.quiet_of_same (radd_any _ _ _ (by omega) (by omega) (by omega) (by omega))) | (go_at_call 43; exact Calls.quiet_of_same (rnorm_any _ _ (by omega) (by omega))))
      go_wp2_with fail
      go_ret2
      exact ⟨rfl, by exact ⟨HB.out.os, HB.out.tape, HB.out.output, HB.out.size, HB.out.block⟩⟩

end Go.Proofs.YtkhacijkfjcdeaaDoor

/-
  A contract of tallyref's Holds, of right things; it makes new rows and writes nothing that was there.
-/
namespace Go.Proofs.YtkhacijkfjcdeaaDoor
open Go.RowKit
set_option linter.unusedVariables false
attribute [local go_sem ↓] Go.wp_at_zero Go.wp_at_succ

theorem row_sub {w : World} {b o n : Nat} {f : Nat → Int} (h : Row w b o n f) (i k : Nat) (hk : i + k ≤ n) : Row w b (o + i) k (fun j => f (i + j)) := fun j hj => h.from i j (by omega)

set_option maxHeartbeats 8000000 in
set_option maxRecDepth 100000 in
theorem rholds_any (c : CQ) (g : Int) (b off n cap : Nat) (A : Nat → Option Addr) (C : Nat → Nat) (bi oi ni ci bo oo no co : Nat) (fi fo : Nat → Int) (ap : Option Addr) (np cp : Nat) (p : PQ) (m : PM) (bd od nd cd : Nat) (D : Nat → Int) (w : World)
    (hg : c.log = g) (hn : c.layers.length = n) (hr : CRow w (some ⟨b, off, none⟩) c.layers A C) (hc : c.right) (hp : p.n = np) (hpr : PfRow w ap p m) (hpn : p.nums) (hsh : shapedQ c p)
    (hi : Row w bi oi ni fi) (vi : Nums fi) (hni : ni = 2 ^ (partsQ c).lg n) (ho : Row w bo oo no fo) (vo : Nums fo) (hno : no = 2 ^ (partsQ c).lg 0) (hd : Row w bd od nd D) (vd : Nums D) (hnd : nd = needQ c) (hcd : nd ≤ cd) (hcd2 : cd ≤ maxLen) :
    Calls Tryd.prog 13 #[.agg #[.int .i64 g, .slice (some ⟨b, off, none⟩) n cap], .slice (some ⟨bi, oi, none⟩) ni ci, .slice (some ⟨bo, oo, none⟩) no co, .agg #[.slice ap np cp], .slice (some ⟨bd, od, none⟩) nd cd] w fun e w' =>
      ∃ r : Bool, e = .returned (.bool r) ∧ (r = true ↔ (partsQ c).holds D p.told (ofK (evS (fun j => kk (fo j)) (fun j => kk (D j)) ((partsQ c).lg 0))) (fun j => kk (fi j))) ∧ Below w.heap.size w w' := by
  have n4 : n ≤ 4 := by have := hc.few; omega
  have n1 : 1 ≤ n := by have := List.length_pos_iff.2 hc.some; omega
  have nd40 : nd ≤ 40 := by rw [hnd]; exact needQ_le hc
  obtain ⟨last, rfl⟩ : ∃ m, n = m + 1 := ⟨n - 1, by omega⟩
  obtain ⟨l0, hl0, hz0, _, _, _⟩ := parts_layer hc (j := 0) (by omega)
  rw [hn, show last + 1 - 1 - 0 = last from by omega] at hl0
  obtain ⟨lk0, hlk0⟩ : ∃ x, (partsQ c).lg 0 = x := ⟨_, rfl⟩
  have lk4 : lk0 ≤ 4 := by rw [← hlk0]; exact parts_lg hc 0
  have hlog0 : l0.log = (lk0 : Int) := by rw [← hlk0, hz0]; have := (hc.layer last l0 hl0).1; omega
  have hat0 : lk0 ≤ nd := by rw [hnd, ← hlk0]; exact Nat.le_trans (at_mono (partsQ c) (Nat.zero_le c.layers.length)) (Nat.le_refl _)
  obtain ⟨c0, hc0⟩ : ∃ x, ofK (evS (fun j => kk (fo j)) (fun j => kk (D j)) ((partsQ c).lg 0)) = x := ⟨_, rfl⟩
  have c00 : 0 ≤ c0 ∧ c0 ≤ 2305843009213693950 := by rw [← hc0]; exact ofK_rng _
  have HEV0 := hid (fun W (h : Below w.heap.size w W) => reval_any bo oo lk0 no co cd (some ⟨bd, od, none⟩) fo D W (by omega) (by rw [hno, hlk0]) (by rw [hno, hlk0]; exact Nat.le_trans (Nat.pow_le_pow_right (by omega) lk4) (by decide)) (ho.kept h (ho.lt (by rw [hno]; exact Nat.two_pow_pos _))) vo (PRow.of fun j hj => (hd.kept h (hd.lt (by omega))) j (by omega)) vd)
  rw [hc0]
  rw [hlk0] at hc0
  rw [hc0] at HEV0
  have HR := hid hr
  have HG := hid hg
  have HN := hid hn
  have HC := hid hc
  have HP := hid hp
  have HPR := hid hpr
  have HPN := hid hpn
  have HSH := hid hsh
  have HI := hid (And.intro hi (And.intro vi hni))
  have HD := hid hd
  have HVD := hid vd
  have HND := hid hnd
  have HLK := hid hlk0
  have HCC := hid c00
  have HS0 := hid (StP.start w g (.slice (some ⟨b, off, none⟩) (last + 1) cap) (.slice ap np cp) 24 28)
  obtain ⟨b', off', eb, hcl⟩ := hr hc.some
  cases eb
  have y0 := (hcl last l0 hl0).1
  rw [Nat.mul_comm 2 last, hlog0] at y0
  have HY0 := hid y0
  clear hr hg hn hc hp hpr hpn hsh hi vi hni ho vo hno hd vd hnd hlk0 hc0 c00 hcl hl0 hz0 hlog0 y0
  have s0 : (0 : Int) ≤ (last : Int) := by omega
  have s1 : (last : Int) < (last : Int) + 1 := by omega
  have s2 : (lk0 : Int) ≤ (cd : Int) := by omega
  have y0' : ∀ o o', ((w.alloc o).alloc o').cell? ⟨b, off + last * 2, none⟩ = some (.int .i64 (lk0 : Int)) := fun o o' => by
    have h1 := (Below.refl w.heap.size w).alloc (Nat.le_refl _) o
    have h2 := (Below.refl (w.alloc o).heap.size (w.alloc o)).alloc (Nat.le_refl _) o'
    have hb := World.block_lt_of_cell? w _ HY0.out
    exact (h2.cell (Nat.lt_of_lt_of_le hb h1.size)).trans ((h1.cell hb).trans HY0.out)
  go_enter Tryd.func13, Tryd.ntmps13
  go_wp2_with fail
  clear y0'
  obtain ⟨B, hB⟩ : ∃ B, w.heap.size = B := ⟨_, rfl⟩
  have HS1 : Hid (StP w ((w.alloc (.cells #[.int .i64 g, .slice (some ⟨b, off, none⟩) (last + 1) cap] 24)).alloc (.cells #[.slice ap np cp] 28)) B g (.slice (some ⟨b, off, none⟩) (last + 1) cap) (B + 1) (.slice ap np cp)) := hid (by rw [← hB]; exact HS0.out)
  rw [hB]
  clear hB HS0
  generalize (w.alloc (.cells #[.int .i64 g, .slice (some ⟨b, off, none⟩) (last + 1) cap] 24)).alloc (.cells #[.slice ap np cp] 28) = W1 at HS1 ⊢
  refine (HEV0.out _ HS1.out.st.bel).mono ?_
  rintro e w1 ⟨rfl, hb⟩
  have HS2 := hid (HS1.out.next hb)
  clear hb HS1 HEV0
  go_wp2_with fail
  have HZ0 : Hid (PRow w1 (some ⟨bd, od, none⟩) lk0 (zQ (partsQ c) D 0)) := hid (PRow.of fun j hj => (HD.out.kept HS2.out.st.bel (HD.out.lt (by omega))) j (by omega))
  go_loopg [12, 13, 14, 15] (last + 1) (fun q z a s j wr => ∃ (t at' : Nat) (az : Option Addr) (lk cz : Nat) (cl : Int), t ≤ last + 1 ∧ q = last + 1 - t ∧ z = .slice az lk cz ∧ a = .int .i64 (at' : Int) ∧ s = .int .u64 cl ∧ j = .int .i64 (t : Int) ∧ lk ≤ 4 ∧ at' ≤ nd ∧ 0 ≤ cl ∧ cl ≤ 2305843009213693950 ∧ Hid (at' = (partsQ c).at t) ∧ Hid ((partsQ c).lg t = lk) ∧ Hid (cl = (partsQ c).claim D p.told c0 t) ∧ Hid (PRow wr az lk (zQ (partsQ c) D t)) ∧ Hid (∀ j, j < t → (partsQ c).part D p.told c0 j) ∧ Hid (StP w wr B g (.slice (some ⟨b, off, none⟩) (last + 1) cap) (B + 1) (.slice ap np cp)))
  case atStart => exact ⟨0, lk0, _, lk0, cd, c0, by omega, rfl, rfl, rfl, rfl, rfl, lk4, hat0, HCC.out.1, HCC.out.2, hid HLK.out.symm, HLK, hid rfl, HZ0, hid (fun j hj => absurd hj (by omega)), HS2⟩
  case round =>
    clear HZ0 HS2
    obtain ⟨t, a, az, lk, cz, cl, ht, rfl, rfl, rfl, rfl, rfl, hlk, ha, cl0, cl1, HA, HLG, HCL, HZ, HOK, HS⟩ := hrel
    obtain ⟨z0, z1, zl⟩ := HS.out.st.box
    have zp := HS.out.pc
    by_cases htl : t < last + 1
    · obtain ⟨i, hi⟩ : ∃ i : Nat, i + t = last := ⟨last - t, by omega⟩
      obtain ⟨bk, hbk, bk4⟩ := belowQ_rng HC.out i
      have HBK := hid (lg_next HN.out (show i + t + 1 = last + 1 by omega) hbk)
      have HBE : Hid (∀ W, Below w.heap.size w W → Calls Tryd.prog 18 #[.agg #[.int .i64 g, .slice (some ⟨b, off, none⟩) (last + 1) cap], .int .i64 (i : Int)] W fun e w' => e = .returned (.int .i64 (bk : Int)) ∧ Below W.heap.size W w') := hid (fun W h => by rw [← hbk]; exact rbelow_any c g b off (last + 1) cap i A C W HG.out HN.out n4 (by omega) (HR.out.kept h))
      have hfit : a + 2 * bk + 1 ≤ nd := by have h := at_fits (c := c) (j := t) (by rw [HN.out]; exact htl); rw [← HA.out, HBK.out, ← HND.out] at h; exact h
      have hni : (last : Int) - (t : Int) = (i : Int) := by omega
      have t1 : (t : Int) ≤ (last : Int) := by omega
      have HII := hid hi
      clear hbk hi
      go_wp2_with fail
      refine (HBE.out _ HS.out.st.bel).mono ?_
      rintro e w2 ⟨rfl, hb⟩
      have HS3 := hid (HS.out.next hb)
      have HZ3 := hid (HZ.out.kept hb)
      clear hb HS z0 z1 zl zp hni HBE HZ t1
      obtain ⟨e1, he1⟩ : ∃ x, a + bk = x := ⟨_, rfl⟩
      obtain ⟨k2, hk2⟩ : ∃ x, 2 * bk = x := ⟨_, rfl⟩
      obtain ⟨e2, he2⟩ : ∃ x, a + k2 = x := ⟨_, rfl⟩
      have a0 : (0 : Int) ≤ (a : Int) := by omega
      have a1 : (a : Int) ≤ (e1 : Int) := by omega
      have a2 : (e1 : Int) ≤ (cd : Int) := by omega
      have a3 : (e1 : Int) ≤ (e2 : Int) := by omega
      have a4 : (e2 : Int) ≤ (cd : Int) := by omega
      have a5 : IntKind.i64.wrap ((a : Int) + (bk : Int)) = (e1 : Int) := by rw [show (a : Int) + (bk : Int) = (e1 : Int) from by omega]; exact IntWalk.i64_in _ (by omega)
      have a6 : IntKind.i64.wrap (2 * (bk : Int)) = (k2 : Int) := by rw [show 2 * (bk : Int) = (k2 : Int) from by omega]; exact IntWalk.i64_in _ (by omega)
      have a7 : IntKind.i64.wrap ((a : Int) + (k2 : Int)) = (e2 : Int) := by rw [show (a : Int) + (k2 : Int) = (e2 : Int) from by omega]; exact IntWalk.i64_in _ (by omega)
      have b0 : (0 : Int) ≤ (e1 : Int) := by omega
      have b1 : (0 : Int) ≤ (e2 : Int) := by omega
      have hs1 : e1 - a = bk := by omega
      have hs2 : e2 - e1 = bk := by omega
      have hs3 : e2 - a = k2 := by omega
      have hca : ¬ cd = a := by omega
      have hce : ¬ cd = e1 := by omega
      have HE := hid (And.intro he1 (And.intro hk2 he2))
      have hfit2 : e2 + 1 ≤ nd := by omega
      clear he1 hk2 he2
      go_wp2_with fail
      go_quiet (fail)
      have HS4 : Hid (StP w (w2.drewN nq) B g (.slice (some ⟨b, off, none⟩) (last + 1) cap) (B + 1) (.slice ap np cp)) := hid (HS3.out.next ⟨rfl, rfl, rfl, Nat.le_refl _, fun _ _ => rfl⟩)
      have HZ4 : Hid (PRow (w2.drewN nq) az lk (zQ (partsQ c) D t)) := hid HZ3.out
      clear HS3 HZ3 a5 a6 a7 a1 a2 a3 b0 hs1 hs2 hce
      generalize w2.drewN nq = w3 at HS4 HZ4 ⊢
      have HDR := hid (HD.out.kept HS4.out.st.bel (HD.out.lt (by omega)))
      have ct := HDR.out e2 (by omega)
      obtain ⟨tau, htau⟩ : ∃ x, D e2 = x := ⟨_, rfl⟩
      obtain ⟨tau0, tau1⟩ := HVD.out e2
      rw [htau] at ct tau0 tau1
      have HTAU := hid htau
      have h6 : 2 * (bk : Int) = (k2 : Int) := by have := HE.out.2.1; omega
      have h7 : (a : Int) + (k2 : Int) = (e2 : Int) := by have := HE.out.2.2; omega
      have h8 : (e2 : Int) < (nd : Int) := by omega
      clear htau
      go_upto_region 12 with fail
      clear ct h6 h7 h8
      have hpt : t < p.n := by rw [HSH.out.1, HN.out]; exact htl
      obtain ⟨pb, po, rfl, hcl⟩ := HPR.out.kept HS4.out.st.bel (by omega)
      obtain ⟨y0, y1, y2, y3⟩ := hcl t hpt
      obtain ⟨sh1, sh2, sh3⟩ := HSH.out.2 t hpt
      have hrn : p.rn t = k2 := by rw [sh1, HBK.out, HE.out.2.1]
      have hln : p.ln t = bk + 1 := by rw [sh2, HBK.out]
      rw [Nat.mul_comm 2 t] at y0 y1
      rw [hrn] at y0 y2 sh3
      rw [hln] at y1 y3
      obtain ⟨vR, vL⟩ := HPN.out t hpt
      rw [hrn] at vR
      obtain ⟨ra, hra⟩ : ∃ x, m.ra t = x := ⟨_, rfl⟩
      obtain ⟨rc, hrc⟩ : ∃ x, m.rc t = x := ⟨_, rfl⟩
      obtain ⟨la, hla⟩ : ∃ x, m.la t = x := ⟨_, rfl⟩
      obtain ⟨lc, hlc⟩ : ∃ x, m.lc t = x := ⟨_, rfl⟩
      rw [hra, hrc] at y0
      rw [hla, hlc] at y1
      rw [hra] at y2
      rw [hla] at y3
      have hnow : ∀ r, nrm (toldQ cl (p.R t) 3 (fun i => D (a + i)) r) = (partsQ c).now D p.told c0 t r := fun r => by rw [HCL.out, HA.out]; exact now_nrm HCC.out.1 HCC.out.2 (partsQ c) D p.told t r
      obtain ⟨tr, nw, nw0, nw1, htr, hnw, hto⟩ : ∃ (tr : Bool) (nw : Int), 0 ≤ nw ∧ nw ≤ 2305843009213693950 ∧ (tr = true ↔ ∀ r, r < k2 → addQ (p.R t r 0) (p.R t r 1) = (partsQ c).now D p.told c0 t r) ∧ (tr = true → nw = (partsQ c).now D p.told c0 t k2) ∧ ∀ W, Below w3.heap.size w3 W → Calls Tryd.prog 42 #[.int .u64 cl, .slice ra k2 rc, .slice (some ⟨bd, od + a, none⟩) k2 (cd - a)] W fun e w' => e = .returned (.tuple #[.int .u64 nw, .bool tr]) ∧ Below W.heap.size W w' := by
        have hk9 : k2 ≤ 8 := by have := HE.out.2.1; omega
        have hsub : ∀ W, Below w3.heap.size w3 W → PRow W (some ⟨bd, od + a, none⟩) k2 (fun i => D (a + i)) := fun W hW => PRow.of (row_sub (HDR.out.kept hW (HDR.out.lt (by omega))) a k2 (by have := HE.out.2.2; omega))
        rcases first_bad (fun r => addQ (p.R t r 0) (p.R t r 1) = (partsQ c).now D p.told c0 t r) k2 with hall | ⟨r, hr, hno, hall⟩
        · have hrg := nrm_rng (toldQ cl (p.R t) 3 (fun i => D (a + i)) k2)
          rw [hnow] at hrg
          refine ⟨true, _, hrg.1, hrg.2, ⟨fun _ => hall, fun _ => rfl⟩, fun _ => rfl, fun W hW => ?_⟩
          have h := told_ok ra (some ⟨bd, od + a, none⟩) k2 rc (cd - a) 3 (m.A t) (p.rl t) (m.C t) (p.R t) (fun i => D (a + i)) cl W (by omega) (by omega) (by omega) (by omega) (by omega) (y2.kept hW) sh3 vR (hsub W hW) (Nums_from HVD.out a) (fun k hk => by rw [hall k hk, hnow k])
          rw [hnow] at h
          exact h
        · refine ⟨false, 0, by omega, by omega, ⟨fun h => absurd h Bool.false_ne_true, fun h => absurd (h r hr) hno⟩, fun h => absurd h Bool.false_ne_true, fun W hW => ?_⟩
          exact told_bad ra (some ⟨bd, od + a, none⟩) k2 rc (cd - a) 3 (m.A t) (p.rl t) (m.C t) (p.R t) (fun i => D (a + i)) cl W (by omega) (by omega) (by omega) (by omega) (by omega) (y2.kept hW) sh3 vR (hsub W hW) (Nums_from HVD.out a) r hr (fun k hk => by rw [hall k hk, hnow k]) (by rw [hnow r]; exact hno)
      have HTO := hid hto
      have HTR := hid (And.intro htr hnw)
      have HY1 := hid y1
      have HY3 := hid y3
      have HVL := hid vL
      clear hto htr hnw hnow y1 y2 y3 hcl sh1 sh2 sh3 hrn hln vR vL hra hrc hla hlc
      have zp := HS4.out.pc
      have t0 : (0 : Int) ≤ (t : Int) := by omega
      have t1 : (t : Int) < (np : Int) := by have := HP.out; omega
      have i6 : IntKind.i64.wrap (2 * (bk : Int)) = (k2 : Int) := by rw [show 2 * (bk : Int) = (k2 : Int) from by have := HE.out.2.1; omega]; exact IntWalk.i64_in _ (by omega)
      have i7 : IntKind.i64.wrap ((a : Int) + (k2 : Int)) = (e2 : Int) := by rw [show (a : Int) + (k2 : Int) = (e2 : Int) from by have := HE.out.2.2; omega]; exact IntWalk.i64_in _ (by omega)
      have a1 : (a : Int) ≤ (e2 : Int) := by have := HE.out.2.2; omega
      go_region_held3 (fun W => W.cell? ⟨B + 1, 0, none⟩ = some (.slice (some ⟨pb, po, none⟩) np cp) ∧ W.cell? ⟨pb, po + t * 2, none⟩ = some (.slice ra k2 rc)) (first | assumption | exact ⟨zp, y0⟩ | exact zx) (first
        | (go_at_call 42; refine (HTO.out _ (Below.refl _ w3).drew).mono ?_; rintro e w4 ⟨rfl, hb⟩; have hbA : Below w3.heap.size w3 w4 := (Below.refl _ w3).drew.trans hb; have zx : w4.cell? ⟨B + 1, 0, none⟩ = some (.slice (some ⟨pb, po, none⟩) np cp) ∧ w4.cell? ⟨pb, po + t * 2, none⟩ = some (.slice ra k2 rc) := ⟨(hbA.cell (World.block_lt_of_cell? w3 _ zp)).trans zp, (hbA.cell (World.block_lt_of_cell? w3 _ y0)).trans y0⟩; clear hb))
      have HS5 := hid (HS4.out.next hbA)
      have HZ5 := hid (HZ4.out.kept hbA)
      have HDR5 := hid (HDR.out.kept hbA (HDR.out.lt (by omega)))
      have y1 := (hbA.cell (World.block_lt_of_cell? w3 _ HY1.out)).trans HY1.out
      obtain ⟨lb, lo, rfl, hlr⟩ := HY3.out.kept hbA (by omega)
      have HLR := hid hlr
      clear hbA zp zx y0 HS4 HZ4 HDR HTO HY1 HY3 hlr i6 i7 a1
      have zp := HS5.out.pc
      have v0 := HLR.out 0 (by omega)
      rw [Nat.add_zero] at v0
      obtain ⟨x0, hx0⟩ : ∃ x, p.L t 0 = x := ⟨_, rfl⟩
      obtain ⟨x00, x01⟩ := HVL.out 0
      rw [hx0] at v0 x00 x01
      have HX0 := hid hx0
      clear hx0
      have l1 : (0 : Int) < (bk : Int) + 1 := by omega
      obtain ⟨vy, hvy⟩ : ∃ x, nrm ((partsQ c).v1 p.told t) = x := ⟨_, rfl⟩
      have HVY := hid hvy
      clear hvy
      go_upto_if 109 with (go_at_call 43; refine (rnorm_any _ _ (by omega) (by omega)).mono ?_; rintro e w' ⟨rfl, hw⟩; obtain rfl := hw.symm)
      go_cut [24] (fun a24 wx => a24 = .int .u64 vy ∧ wx = w4)
      case first =>
        by_cases hb0 : bk = 0
        · have e3 : vy = nrm x0 := by rw [← HVY.out, Parts.v1, HBK.out, if_pos hb0, ← HX0.out]; rfl
          have hk0 : ¬ ((0 : Int) < (bk : Int)) := by omega
          clear hb0
          go_wp2_with fail
          go_meet
          exact ⟨by rw [e3], rfl⟩
        · have hk0 : (0 : Int) < (bk : Int) := by omega
          have v1 := HLR.out 1 (by omega)
          obtain ⟨x1, hx1⟩ : ∃ x, p.L t 1 = x := ⟨_, rfl⟩
          obtain ⟨x10, x11⟩ := HVL.out 1
          rw [hx1] at v1 x10 x11
          have e3 : vy = nrm x1 := by rw [← HVY.out, Parts.v1, HBK.out, if_neg hb0, ← hx1]; rfl
          have l2 : (1 : Int) < (bk : Int) + 1 := by omega
          clear hx1
          go_wp2_with (go_at_call 43; refine (rnorm_any _ _ (by omega) (by omega)).mono ?_; rintro e w' ⟨rfl, hw⟩; obtain rfl := hw.symm)
          go_meet
          exact ⟨by rw [e3], rfl⟩
      case rest =>
        obtain ⟨rfl, hwc⟩ := hcut
        subst hwc
        obtain ⟨vy0, vy1⟩ := nrm_rng ((partsQ c).v1 p.told t)
        rw [HVY.out] at vy0 vy1
        obtain ⟨l, hl, hlg, hlen, _, hgo⟩ := parts_layer HC.out (j := t) (by rw [HN.out]; exact htl)
        rw [HN.out, show last + 1 - 1 - t = i from by have := HII.out; omega] at hl
        rw [HLG.out] at hlen
        rw [HBK.out] at hgo
        have HL := hid hl
        have HASK : Hid (∀ W, Below wc.heap.size wc W → Ask W l b off (last + 1) i (A i) (C i) az (some ⟨bd, od + a, none⟩) (some ⟨bd, od + e1, none⟩) lk bk bk (2 ^ lk) (2 ^ bk) (zQ (partsQ c) D t) (fun i => D (a + i)) (fun i => D (e1 + i))) := hid (fun W hW => by
          have hbw := HS5.out.st.bel.trans (hW.mono HS5.out.st.bel.size)
          obtain ⟨b', off', eb, hcl⟩ := HR.out.kept hbw HC.out.some
          cases eb
          obtain ⟨_, c1, c2, _⟩ := hcl i l HL.out
          have hdr := HDR5.out.kept hW (HDR5.out.lt (by omega))
          have h1 := HE.out.1
          have h2 := HE.out.2.1
          have h3 := HE.out.2.2
          exact ⟨by have := HII.out; omega, n4, rfl, Nat.le_trans (Nat.pow_le_pow_right (by omega) hlk) (by decide), Nat.le_trans (Nat.pow_le_pow_right (by omega) bk4) (by decide), hlk, bk4, rfl, hlen, hgo, by rw [← hlen]; exact c1, c2, HZ5.out.kept hW, PRow.of (row_sub hdr a bk (by omega)), PRow.of (row_sub hdr e1 bk (by omega)), Nums_zQ HVD.out _ _, Nums_from HVD.out a, Nums_from HVD.out e1⟩)
        have HSTP : Hid (wstQ l.gates lk bk (zQ (partsQ c) D t) (fun i => D (a + i)) (fun i => D (e1 + i)) x0 vy = ofK (stepK ((partsQ c).M t) ((partsQ c).A t) ((partsQ c).B t) ((partsQ c).lg t) ((partsQ c).lg (t + 1)) ((partsQ c).z D t) ((partsQ c).d D t) (fun i => (partsQ c).d D t ((partsQ c).lg (t + 1) + i)) (kk (p.told.L t 0)) (kk ((partsQ c).v1 p.told t)))) := hid (by
          have h := part_step (c := c) (n := last + 1) (i := i) (t := t) (lk := lk) (bk := bk) HN.out (by have := HII.out; omega) HL.out HLG.out HBK.out D p.told x0 vy (by rw [← HX0.out]; rfl) (by rw [← HVY.out, kk_nrm])
          rw [← HA.out, HE.out.1] at h
          exact h)
        obtain ⟨sv, hsv⟩ : ∃ x, wstQ l.gates lk bk (zQ (partsQ c) D t) (fun i => D (a + i)) (fun i => D (e1 + i)) x0 vy = x := ⟨_, rfl⟩
        have HSC := hid (fun W (h : Below wc.heap.size wc W) => rstep_ask (HASK.out W h) g cap cz (cd - a) (cd - e1) x0 vy (by omega) (by omega) (by omega) (by omega))
        rw [hsv] at HSC HSTP
        clear hl hlg hlen hgo hsv HASK
        obtain ⟨z0, z1, zl⟩ := HS5.out.st.box
        have HPART : Hid ((partsQ c).part D p.told c0 t ↔ tr = true ∧ sv = nw) := hid (by
          have hk2 : (partsQ c).lg (t + 1) + (partsQ c).lg (t + 1) = k2 := by rw [HBK.out]; have := HE.out.2.1; omega
          constructor
          · intro h
            have h1 : tr = true := HTR.out.1.2 (fun r hr => h.sums r (by rw [hk2]; exact hr))
            refine ⟨h1, ?_⟩
            rw [HSTP.out, HTR.out.2 h1, ← hk2]
            exact h.step
          · rintro ⟨h1, h2⟩
            refine ⟨fun r hr => HTR.out.1.1 h1 r (by rw [← hk2]; exact hr), ?_⟩
            rw [hk2, ← HTR.out.2 h1, ← h2, ← HSTP.out])
        clear HSTP HTR
        cases tr with
        | false =>
          have HNO : Hid (¬ (partsQ c).holds D p.told c0 (fun j => kk (fi j))) := hid (fun h => Bool.false_ne_true (HPART.out.1 (h.1 t (show t < c.layers.length by rw [HN.out]; exact htl))).1)
          go_wp2_with fail
          go_quiet (fail)
          go_wp2_with fail
          go_ret
          exact ⟨false, rfl, ⟨fun h => absurd h Bool.false_ne_true, fun h => absurd h HNO.out⟩, ⟨HS5.out.st.bel.os, HS5.out.st.bel.tape, HS5.out.st.bel.output, HS5.out.st.bel.size, HS5.out.st.bel.block⟩⟩
        | true =>
          have zx0 : wc.cell? ⟨B, 0, none⟩ = some (.int .i64 g) ∧ wc.cell? ⟨B, 1, none⟩ = some (.slice (some ⟨b, off, none⟩) (last + 1) cap) ∧ wc.cell? ⟨lb, lo, none⟩ = some (.int .u64 x0) := ⟨z0, z1, v0⟩
          by_cases hsn : sv = nw
          · have e4 : (sv != nw) = false := neq_of hsn
            go_wp2_with fail
            go_region_held3 (fun W => W.cell? ⟨B, 0, none⟩ = some (.int .i64 g) ∧ W.cell? ⟨B, 1, none⟩ = some (.slice (some ⟨b, off, none⟩) (last + 1) cap) ∧ W.cell? ⟨lb, lo, none⟩ = some (.int .u64 x0)) (first | assumption | exact zx0 | exact zx) (first
              | (go_at_call 44; refine (HSC.out _ (Below.refl _ wc).drew).mono ?_; rintro e w5 ⟨rfl, hb⟩; have hbA : Below wc.heap.size wc w5 := (Below.refl _ wc).drew.trans hb; have zx : w5.cell? ⟨B, 0, none⟩ = some (.int .i64 g) ∧ w5.cell? ⟨B, 1, none⟩ = some (.slice (some ⟨b, off, none⟩) (last + 1) cap) ∧ w5.cell? ⟨lb, lo, none⟩ = some (.int .u64 x0) := ⟨(hbA.cell (World.block_lt_of_cell? wc _ z0)).trans z0, (hbA.cell (World.block_lt_of_cell? wc _ z1)).trans z1, (hbA.cell (World.block_lt_of_cell? wc _ v0)).trans v0⟩; clear hb))
            have HS6 := hid (HS5.out.next hbA)
            have HDR6 := hid (HDR5.out.kept hbA (HDR5.out.lt (by omega)))
            have HLR6 := hid (HLR.out.kept hbA (HLR.out.lt (by omega)))
            have HPA := hid (HPART.out.2 ⟨(by first | rfl | trivial), hsn⟩)
            clear hbA zx zx0 HS5 HDR5 HLR HPART HSC z0 z1 zl v0 zp y1
            have HATC := hid (fun W (h : Below w5.heap.size w5 W) => rat_any lb lo (bk + 1) lc (p.L t) tau W (by omega) (HLR6.out.kept h (HLR6.out.lt (by omega))) HVL.out (by omega) (by omega))
            have HLIN := hid (fun W (h : Below w5.heap.size w5 W) => rgline_any (some ⟨bd, od + a, none⟩) (some ⟨bd, od + e1, none⟩) bk (cd - a) (cd - e1) (fun i => D (a + i)) (fun i => D (e1 + i)) tau W (by omega) (PRow.of (row_sub (HDR6.out.kept h (HDR6.out.lt (by omega))) a bk (by have h1 := HE.out.1; have h2 := HE.out.2.1; have h3 := HE.out.2.2; omega))) (PRow.of (row_sub (HDR6.out.kept h (HDR6.out.lt (by omega))) e1 bk (by have h1 := HE.out.1; have h2 := HE.out.2.1; have h3 := HE.out.2.2; omega))) (Nums_from HVD.out a) (Nums_from HVD.out e1) (by omega) (by omega))
            obtain ⟨cl', hcl'⟩ : ∃ x, atQ (p.L t) (bk + 1) tau = x := ⟨_, rfl⟩
            rw [hcl'] at HATC
            have hclr := atQ_rng (p.L t) (bk + 1) tau
            rw [hcl'] at hclr
            have HCL' : Hid (cl' = (partsQ c).claim D p.told c0 (t + 1)) := hid (by
              show cl' = atQ (p.L t) ((partsQ c).lg (t + 1) + 1) (D ((partsQ c).at t + 2 * (partsQ c).lg (t + 1)))
              rw [HBK.out, ← HA.out, HE.out.2.1, HE.out.2.2, HTAU.out, hcl'])
            have HZN : Hid (∀ j, linQ (fun i => D (a + i)) (fun i => D (e1 + i)) tau j = zQ (partsQ c) D (t + 1) j) := hid (fun j => by
              show _ = linQ (fun i => D ((partsQ c).at t + i)) (fun i => D ((partsQ c).at t + (partsQ c).lg (t + 1) + i)) (D ((partsQ c).at t + 2 * (partsQ c).lg (t + 1))) j
              rw [HBK.out, ← HA.out, HE.out.1, HE.out.2.1, HE.out.2.2, HTAU.out])
            clear hcl'
            go_wp2_with fail
            refine (HATC.out _ (Below.refl _ w5)).mono ?_
            rintro e w' ⟨rfl, hw⟩
            obtain rfl := hw.symm
            clear hw
            go_wp2_with fail
            refine (HLIN.out _ (Below.refl _ w5)).mono ?_
            rintro e w7 ⟨vz, rfl, hoz, hb⟩
            obtain ⟨az7, cz7, rfl, hpz, _⟩ := hoz.is
            have HS7 := hid (HS6.out.next hb)
            have HZ7 : Hid (PRow w7 az7 bk (zQ (partsQ c) D (t + 1))) := hid (hpz.congr fun j _ => HZN.out j)
            clear hb hoz hpz HS6 HDR6 HLR6 HATC HLIN HZN
            obtain ⟨cl0', cl1'⟩ := hclr
            go_wp2_with fail
            go_roundg (last + 1 - (t + 1))
            case measure => go_light; omega
            case rel => exact ⟨t + 1, e2 + 1, az7, bk, cz7, cl', by omega, rfl, rfl, by (have h1 := HE.out.2.1; have h2 := HE.out.2.2; go_num), rfl, by go_num, bk4, by omega, cl0', cl1', hid (by
              show e2 + 1 = (partsQ c).at t + 2 * (partsQ c).lg (t + 1) + 1
              rw [HBK.out, ← HA.out, HE.out.2.1, HE.out.2.2]), HBK, HCL', HZ7, hid (fun j hj => by
                by_cases e : j = t
                · rw [e]; exact HPA.out
                · exact HOK.out j (by omega)), HS7⟩
          · have e4 : (sv != nw) = true := by simp [hsn]
            have HNO : Hid (¬ (partsQ c).holds D p.told c0 (fun j => kk (fi j))) := hid (fun h => hsn (HPART.out.1 (h.1 t (show t < c.layers.length by rw [HN.out]; exact htl))).2)
            go_wp2_with fail
            go_region_held3 (fun W => W.cell? ⟨B, 0, none⟩ = some (.int .i64 g) ∧ W.cell? ⟨B, 1, none⟩ = some (.slice (some ⟨b, off, none⟩) (last + 1) cap) ∧ W.cell? ⟨lb, lo, none⟩ = some (.int .u64 x0)) (first | assumption | exact zx0 | exact zx) (first
              | (go_at_call 44; refine (HSC.out _ (Below.refl _ wc).drew).mono ?_; rintro e w5 ⟨rfl, hb⟩; have hbA : Below wc.heap.size wc w5 := (Below.refl _ wc).drew.trans hb; have zx : w5.cell? ⟨B, 0, none⟩ = some (.int .i64 g) ∧ w5.cell? ⟨B, 1, none⟩ = some (.slice (some ⟨b, off, none⟩) (last + 1) cap) ∧ w5.cell? ⟨lb, lo, none⟩ = some (.int .u64 x0) := ⟨(hbA.cell (World.block_lt_of_cell? wc _ z0)).trans z0, (hbA.cell (World.block_lt_of_cell? wc _ z1)).trans z1, (hbA.cell (World.block_lt_of_cell? wc _ v0)).trans v0⟩; clear hb))
            have HS6 := hid (HS5.out.next hbA)
            clear hbA zx zx0 HS5
            go_wp2_with fail
            go_ret
            exact ⟨false, rfl, ⟨fun h => absurd h Bool.false_ne_true, fun h => absurd h HNO.out⟩, HS6.out.st.bel⟩
    · have e : t = last + 1 := by omega
      have t1 : ¬ ((t : Int) ≤ (last : Int)) := by omega
      obtain ⟨hri, vi, hni⟩ := HI.out
      have hlk2 : (partsQ c).lg (last + 1) = lk := by rw [← e]; exact HLG.out
      have HEV := hid (reval_any bi oi lk ni ci cz az fi (zQ (partsQ c) D t) wr (by omega) (by rw [hni, hlk2]) (by rw [hni, hlk2]; exact Nat.le_trans (Nat.pow_le_pow_right (by omega) hlk) (by decide)) (hri.kept HS.out.st.bel (hri.lt (by rw [hni]; exact Nat.two_pow_pos _))) vi HZ.out (Nums_zQ HVD.out _ _))
      obtain ⟨ev, hev⟩ : ∃ x, ofK (evS (fun j => kk (fi j)) (fun j => kk (zQ (partsQ c) D t j)) lk) = x := ⟨_, rfl⟩
      rw [hev] at HEV
      have HFIN : Hid ((ev == cl) = true ↔ (partsQ c).holds D p.told c0 (fun j => kk (fi j))) := hid (by
        have hz : (fun j => kk (zQ (partsQ c) D t j)) = (partsQ c).z D t := by funext j; exact kk_zQ _ _ _ _
        rw [beq_iff_eq, ← hev, hz, HCL.out]
        have hnn : (partsQ c).n = t := by show c.layers.length = t; rw [HN.out, e]
        unfold Parts.holds
        rw [hnn, HLG.out]
        exact ⟨fun h => ⟨fun j hj => HOK.out j hj, h⟩, fun h => h.2⟩)
      clear hri vi hni hlk2 hev
      go_wp2_with fail
      refine (HEV.out).mono ?_
      rintro e w9 ⟨rfl, hb⟩
      have HS9 := hid (HS.out.next hb)
      clear hb
      go_wp2_with fail
      go_ret
      exact ⟨_, rfl, HFIN.out, HS9.out.st.bel⟩

end Go.Proofs.YtkhacijkfjcdeaaDoor

/-
  A contract of the law GkrVerifies, for every circuit, all lists and all proofs: it answers true.
-/
namespace Go.Proofs.YtkhacijkfjcdeaaDoor
open Go.RowKit
set_option linter.unusedVariables false
attribute [local go_sem ↓] Go.wp_at_zero Go.wp_at_succ

theorem bool_iff {r s : Bool} {P : Prop} (h : r = true ↔ P) (g : s = true ↔ P) : r = s := by
  cases r with
  | true => exact (g.2 (h.1 rfl)).symm
  | false =>
    cases s with
    | false => rfl
    | true => exact h.2 (g.1 rfl)
theorem row_of {w : World} {ao : Option Addr} {n : Nat} {f : Nat → Int} (h : PRow w ao n f) (hn : 0 < n) : ∃ b off, ao = some ⟨b, off, none⟩ ∧ Row w b off n f := h hn
/-- The numbers that the law reckons: how many inputs and outputs there must be. -/
theorem top_nums {c : CQ} {n : Nat} (hn : c.layers.length = n) (hc : c.right) : ∃ (last lk M : Nat) (l : LQ), n = last + 1 ∧ c.layers[last]? = some l ∧ l.log = (lk : Int) ∧ lk ≤ 4 ∧ wrap64 ((2 : Int) ^ lk) = (M : Int) ∧ M = 2 ^ (partsQ c).lg 0 := by
  have n1 : 1 ≤ n := by have := List.length_pos_iff.2 hc.some; omega
  obtain ⟨l, hl, hz, _, _, _⟩ := parts_layer hc (j := 0) (by omega)
  have hr := (hc.layer _ l hl).1
  have h4 := parts_lg hc 0
  refine ⟨n - 1, (partsQ c).lg 0, 2 ^ (partsQ c).lg 0, l, by omega, by rw [← hn]; exact hl, by rw [hz]; omega, h4, shl_pow (by omega), rfl⟩

set_option maxHeartbeats 8000000 in
set_option maxRecDepth 100000 in
theorem gver_any (c : CQ) (g : Int) (ao : Option Addr) (n cap : Nat) (A : Nat → Option Addr) (C : Nat → Nat) (ai ay ad : Option Addr) (ni ci no co nd cd : Nat) (fi fo fd : Nat → Int) (ap : Option Addr) (np cp : Nat) (p : PQ) (m : PM) (w : World) (ht : Tab w) (hg : c.log = g) (hn : c.layers.length = n) (hr : CRow w ao c.layers A C) (hi : PRow w ai ni fi) (vi : Nums fi) (ho : PRow w ay no fo) (vo : Nums fo) (hd : PRow w ad nd fd) (vd : Nums fd) (hcd : nd ≤ cd) (hcm : cd ≤ maxLen) (hp : p.n = np) (hpr : PfRow w ap p m) (hpn : p.nums) (n63 : ni ≤ maxLen) (o63 : no ≤ maxLen) :
    Calls Tryd.prog 3 #[.agg #[.int .i64 g, .slice ao n cap], .slice ai ni ci, .slice ay no co, .agg #[.slice ap np cp], .slice ad nd cd] w fun e w' => e = .returned (.bool true) ∧ Below w.heap.size w w' := by
  have HS0 := hid (StQ.start w g (.slice ao n cap) (.slice ap np cp) 24 28)
  have HCI := hid (fun W (h : Below w.heap.size w W) => rcirc_any c g ao n cap A C W hg hn (hr.kept h))
  have HR := hid hr
  have HG := hid hg
  have HN := hid hn
  have HT := hid (fun W (h : Below w.heap.size w W) => ht.kept h ht.1)
  have HI := hid (And.intro hi vi)
  have HO := hid (And.intro ho vo)
  have HD := hid (And.intro hd vd)
  have HPP := hid (And.intro hp (And.intro hpr hpn))
  have HCD := hid (And.intro hcd hcm)
  have n63' : (ni : Int) ≤ 9223372036854775807 := by have : maxLen ≤ 9223372036854775807 := by decide
                                                     omega
  have o63' : (no : Int) ≤ 9223372036854775807 := by have : maxLen ≤ 9223372036854775807 := by decide
                                                     omega
  clear hr hg hn ht hi vi hd vd ho vo hp hpr hpn hcd hcm n63 o63
  obtain ⟨z0, z1, zl⟩ := HS0.out.box
  go_enter Tryd.func3, Tryd.ntmps3
  go_wp2_with fail
  obtain ⟨X, hX⟩ : ∃ X, w.heap.size = X := ⟨_, rfl⟩
  rw [hX] at HS0
  rw [hX]
  clear hX z0 z1 zl
  generalize (w.alloc (.cells #[.int .i64 g, .slice ao n cap] 24)).alloc (.cells #[.slice ap np cp] 28) = W0 at HS0 ⊢
  refine (HCI.out _ HS0.out.bel).mono ?_
  rintro e w1 ⟨y, rfl, hy, hb⟩
  have HS1 := hid (HS0.out.next hb)
  have HYE := hid hy
  clear hb hy HS0 HCI
  obtain ⟨z0, z1, zl⟩ := HS1.out.box
  have zp := HS1.out.pc
  by_cases hy0 : y = 0
  · subst hy0
    have HC := hid (checkE_zero.1 HYE.out)
    obtain ⟨b, off, rfl⟩ := right_addr HC.out HR.out
    obtain ⟨gn, N, rfl, gn4, sh, hN, N1, N16, hNk⟩ := right_nums HG.out HN.out HC.out
    obtain ⟨last, lk, M, l, hlast, hl, hlg, lk4, shM, hM⟩ := top_nums HN.out HC.out
    subst hlast
    have HNM := hid (And.intro hNk hM)
    have HX0 : Hid (∀ W, Below w.heap.size w W → W.cell? ⟨b, off + last * 2, none⟩ = some (.int .i64 (lk : Int))) := hid (fun W h => by
      obtain ⟨b', off', eb, hcc⟩ := HR.out.kept h HC.out.some
      cases eb
      have := (hcc last l hl).1
      rw [Nat.mul_comm 2 last, hlg] at this
      exact this)
    have M16 : M ≤ 16 := by rw [hM]; exact Nat.le_trans (Nat.pow_le_pow_right (by omega) (parts_lg HC.out 0)) (by decide)
    have HEN : Hid (endsQ c ni no ↔ ni = N ∧ no = M) := hid (by unfold endsQ; rw [HN.out, ← hNk, ← hM])
    have n4 : last + 1 ≤ 4 := by have := HC.out.few; have := HN.out; omega
    clear hN hNk hM hl hlg
    go_wp2_with fail
    refine (rshaped_any c (gn : Int) b off (last + 1) cap A C ap np cp p m w1 HG.out HN.out (HR.out.kept HS1.out.bel) HC.out HPP.out.1 (HPP.out.2.1.kept HS1.out.bel)).mono ?_
    rintro e w2 ⟨r, rfl, hrs, hb⟩
    have HS2 := hid (HS1.out.next hb)
    have HRS := hid hrs
    clear hb hrs HS1 z0 z1 zl zp
    obtain ⟨z0, z1, zl⟩ := HS2.out.box
    have zp := HS2.out.pc
    have gn0 : (0 : Int) ≤ (gn : Int) := by omega
    have lk0 : (0 : Int) ≤ (lk : Int) := by omega
    have s0 : (0 : Int) ≤ (last : Int) := by omega
    have s1 : (last : Int) < (last : Int) + 1 := by omega
    cases r with
    | false =>
      have HNS : Hid (¬ shapedQ c p) := hid (fun h => by have := HRS.out.2 h; revert this; simp)
      have HFO := hid (form_is (cap := cap) (cp := cp) (x := 4) HG.out HN.out HR.out HC.out HPP.out.1 HPP.out.2.1 (.inr (.inr ⟨HC.out, HNS.out, rfl⟩)))
      clear HRS
      go_wp2_with fail
      refine (HFO.out _ HS2.out.bel).mono ?_
      rintro e w3 ⟨rfl, hb⟩
      have HS3 := hid (HS2.out.next hb)
      clear hb HS2 z0 z1 zl zp
      obtain ⟨z0, z1, zl⟩ := HS3.out.box
      have zp := HS3.out.pc
      have zx := HX0.out _ HS3.out.bel
      have HVE := hid (vf_form c (gn : Int) (some ⟨b, off, none⟩) (last + 1) cap ap np cp ai ay ad ni ci no co nd cd 4 w3 (by omega) (fun W h => HFO.out W (HS3.out.next h).bel))
      by_cases hi : ni = N
      · by_cases ho : no = M
        · have k1 : ((ni : Int) != (N : Int)) = false := by simp; omega
          have k2 : ((no : Int) != (M : Int)) = false := by simp; omega
          clear hi ho
          go_wp2_with fail
          refine (HVE.out).mono ?_
          rintro e w4 ⟨rfl, hb⟩
          have HS4 := hid (HS3.out.next hb)
          clear hb HS3 z0 z1 zl zp zx
          go_wp2_with fail
          go_ret
          exact ⟨rfl, HS4.out.bel⟩
        · have k1 : ((ni : Int) != (N : Int)) = false := by simp; omega
          have k2 : ((no : Int) != (M : Int)) = true := by simp; omega
          clear hi ho
          go_wp2_with fail
          refine (HVE.out).mono ?_
          rintro e w4 ⟨rfl, hb⟩
          have HS4 := hid (HS3.out.next hb)
          clear hb HS3 z0 z1 zl zp zx
          go_wp2_with fail
          go_ret
          exact ⟨rfl, HS4.out.bel⟩
      · have k1 : ((ni : Int) != (N : Int)) = true := by simp; omega
        clear hi
        go_wp2_with fail
        refine (HVE.out).mono ?_
        rintro e w4 ⟨rfl, hb⟩
        have HS4 := hid (HS3.out.next hb)
        clear hb HS3 z0 z1 zl zp zx
        go_wp2_with fail
        go_ret
        exact ⟨rfl, HS4.out.bel⟩
    | true =>
      have HSP := hid (HRS.out.1 (by first | rfl | trivial))
      have HFO := hid (form_is (cap := cap) (cp := cp) (x := 0) HG.out HN.out HR.out HC.out HPP.out.1 HPP.out.2.1 (.inr (.inl ⟨HC.out, HSP.out, rfl⟩)))
      clear HRS
      go_wp2_with fail
      refine (HFO.out _ HS2.out.bel).mono ?_
      rintro e w3 ⟨rfl, hb⟩
      have HS3 := hid (HS2.out.next hb)
      clear hb HS2 z0 z1 zl zp
      obtain ⟨z0, z1, zl⟩ := HS3.out.box
      have zp := HS3.out.pc
      have zx := HX0.out _ HS3.out.bel
      by_cases hi : ni = N
      · by_cases ho : no = M
        · have k1 : ((ni : Int) != (N : Int)) = false := by simp; omega
          have k2 : ((no : Int) != (M : Int)) = false := by simp; omega
          have HEY := hid (HEN.out.2 ⟨hi, ho⟩)
          have i1 : 0 < ni := by omega
          have o1 : 0 < no := by have h := HEY.out.2; rw [h]; exact Nat.two_pow_pos _
          clear hi ho
          go_wp2_with fail
          refine (rneed_any c (gn : Int) b off (last + 1) cap A C w3 HG.out HN.out (HR.out.kept HS3.out.bel) HC.out).mono ?_
          rintro e w4 ⟨rfl, hb⟩
          have HS4 := hid (HS3.out.next hb)
          clear hb HS3 z0 z1 zl zp zx
          obtain ⟨z0, z1, zl⟩ := HS4.out.box
          have zp := HS4.out.pc
          obtain ⟨q, hq⟩ : ∃ x, needQ c = x := ⟨_, rfl⟩
          rw [hq]
          have HQ := hid hq
          have q1 : 1 ≤ q := by rw [← hq]; have h := at_fits (c := c) (j := 0) (List.length_pos_iff.2 HC.out.some); omega
          clear hq
          by_cases hdq : nd = q
          · have k3 : ((nd : Int) != (q : Int)) = false := by simp; omega
            obtain ⟨bi, oi, rfl, hri⟩ := row_of HI.out.1 i1
            obtain ⟨bo, oo, rfl, hro⟩ := row_of HO.out.1 o1
            obtain ⟨bd, od, rfl, hrd⟩ := row_of HD.out.1 (by omega)
            have HVF := hid (vf_ok c (gn : Int) b off (last + 1) cap A C bi oi ni ci bo oo no co fi fo ap np cp p m bd od nd cd fd w4 HG.out HN.out (HR.out.kept HS4.out.bel) HC.out HPP.out.1 (HPP.out.2.1.kept HS4.out.bel) HPP.out.2.2 HSP.out HEY.out (hri.kept HS4.out.bel (hri.lt i1)) HI.out.2 (hro.kept HS4.out.bel (hro.lt o1)) HO.out.2 (hrd.kept HS4.out.bel (hrd.lt (by omega))) HD.out.2 (by rw [HQ.out]; exact hdq) HCD.out.1 HCD.out.2 (HT.out _ HS4.out.bel))
            have HHO := hid (fun W (h : Below w.heap.size w W) => rholds_any c (gn : Int) b off (last + 1) cap A C bi oi ni ci bo oo no co fi fo ap np cp p m bd od nd cd fd W HG.out HN.out (HR.out.kept h) HC.out HPP.out.1 (HPP.out.2.1.kept h) HPP.out.2.2 HSP.out (hri.kept h (hri.lt i1)) HI.out.2 (by rw [← HN.out]; exact HEY.out.1) (hro.kept h (hro.lt o1)) HO.out.2 HEY.out.2 (hrd.kept h (hrd.lt (by omega))) HD.out.2 (by rw [HQ.out]; exact hdq) HCD.out.1 HCD.out.2)
            clear hri hro hrd hdq
            go_wp2_with fail
            refine (HVF.out).mono ?_
            rintro e w5 ⟨r, rfl, hrr, hb⟩
            have HS5 := hid (HS4.out.next hb)
            have HRR := hid hrr
            clear hb hrr HS4 z0 z1 zl zp
            obtain ⟨z0, z1, zl⟩ := HS5.out.box
            have zp := HS5.out.pc
            go_wp2_with fail
            refine (HHO.out _ HS5.out.bel).mono ?_
            rintro e w6 ⟨r2, rfl, hr2, hb⟩
            have HS6 := hid (HS5.out.next hb)
            have e9 : (r == r2) = true := by rw [bool_iff HRR.out hr2]; simp
            clear hb hr2 HS5 z0 z1 zl zp
            go_wp2_with fail
            go_ret
            exact ⟨rfl, HS6.out.bel⟩
          · have k3 : ((nd : Int) != (q : Int)) = true := by simp; omega
            have HVE := hid (vf_draws c (gn : Int) b off (last + 1) cap A C ap np cp p m ai ay ad ni ci no co nd cd w4 HG.out HN.out (HR.out.kept HS4.out.bel) HC.out HPP.out.1 (HPP.out.2.1.kept HS4.out.bel) HSP.out HEY.out (by rw [HQ.out]; exact hdq))
            clear hdq
            go_wp2_with fail
            refine (HVE.out).mono ?_
            rintro e w5 ⟨rfl, hb⟩
            have HS5 := hid (HS4.out.next hb)
            clear hb HS4 z0 z1 zl zp
            go_wp2_with fail
            go_ret
            exact ⟨rfl, HS5.out.bel⟩
        · have HVE := hid (vf_ends c (gn : Int) b off (last + 1) cap A C ap np cp p m ai ay ad ni ci no co nd cd w3 HG.out HN.out (HR.out.kept HS3.out.bel) HC.out HPP.out.1 (HPP.out.2.1.kept HS3.out.bel) HSP.out (fun h => by have := HEN.out.1 h; omega))
          have k1 : ((ni : Int) != (N : Int)) = false := by simp; omega
          have k2 : ((no : Int) != (M : Int)) = true := by simp; omega
          clear hi ho
          go_wp2_with fail
          refine (HVE.out).mono ?_
          rintro e w4 ⟨rfl, hb⟩
          have HS4 := hid (HS3.out.next hb)
          clear hb HS3 z0 z1 zl zp zx
          go_wp2_with fail
          go_ret
          exact ⟨rfl, HS4.out.bel⟩
      · have HVE := hid (vf_ends c (gn : Int) b off (last + 1) cap A C ap np cp p m ai ay ad ni ci no co nd cd w3 HG.out HN.out (HR.out.kept HS3.out.bel) HC.out HPP.out.1 (HPP.out.2.1.kept HS3.out.bel) HSP.out (fun h => by have := HEN.out.1 h; omega))
        have k1 : ((ni : Int) != (N : Int)) = true := by simp; omega
        clear hi
        go_wp2_with fail
        refine (HVE.out).mono ?_
        rintro e w4 ⟨rfl, hb⟩
        have HS4 := hid (HS3.out.next hb)
        clear hb HS3 z0 z1 zl zp zx
        go_wp2_with fail
        go_ret
        exact ⟨rfl, HS4.out.bel⟩
  · have e1 : (y == 0) = false := beq_eq_false_iff_ne.2 hy0
    have HFB := hid (fun W (h : Below w.heap.size w W) => form_bad c g ao n cap A C ap np cp y W HG.out HN.out (HR.out.kept h) HYE.out hy0)
    have HY0 := hid hy0
    clear hy0
    have e2 : (y != y) = false := by simp
    have e3 : (y == y) = true := by simp
    go_wp2_with fail
    refine (HFB.out _ HS1.out.bel).mono ?_
    rintro e w3 ⟨rfl, hb⟩
    have HS3 := hid (HS1.out.next hb)
    clear hb HS1 z0 z1 zl zp
    obtain ⟨z0, z1, zl⟩ := HS3.out.box
    have zp := HS3.out.pc
    have HVE := hid (vf_form c g ao n cap ap np cp ai ay ad ni ci no co nd cd y w3 HY0.out (fun W h => HFB.out W (HS3.out.next h).bel))
    go_wp2_with fail
    refine (HVE.out).mono ?_
    rintro e w4 ⟨rfl, hb⟩
    have HS4 := hid (HS3.out.next hb)
    clear hb HS3 z0 z1 zl zp
    go_wp2_with fail
    go_ret
    exact ⟨rfl, HS4.out.bel⟩

end Go.Proofs.YtkhacijkfjcdeaaDoor

/-
  Contracts of tallyref's Words, of right circuits, and of Drawn, of right things.
-/
namespace Go.Proofs.YtkhacijkfjcdeaaDoor
open Go.RowKit
set_option linter.unusedVariables false
attribute [local go_sem ↓] Go.wp_at_zero Go.wp_at_succ

def rwordsOut (c : CQ) (w : World) (e : Ending) (w' : World) : Prop := ∃ v, e = .returned v ∧ Own w' w.heap.size v (cwordsQ c).length (rowOf (cwordsQ c)) ∧ Below w.heap.size w w'
set_option maxHeartbeats 8000000 in
set_option maxRecDepth 100000 in
theorem rwords_ok (c : CQ) (g : Int) (b off n cap : Nat) (A : Nat → Option Addr) (C : Nat → Nat) (w : World) (hg : c.log = g) (hn : c.layers.length = n) (hr : CRow w (some ⟨b, off, none⟩) c.layers A C) (hc : c.right) :
    Calls Tryd.prog 17 #[.agg #[.int .i64 g, .slice (some ⟨b, off, none⟩) n cap]] w fun e w' => rwordsOut c w e w' := by
  obtain ⟨i0, hi, hz0, hz1, hz2⟩ := info_parts Tryd.infoO
  have HI := hid (And.intro hi (And.intro hz0 (And.intro hz1 hz2)))
  have HS0 := hid (StW.start w g (.slice (some ⟨b, off, none⟩) n cap) 24)
  have n4 : n ≤ 4 := by have := hc.few; omega
  have g4 : 0 ≤ g ∧ g ≤ 4 := by rw [← hg]; exact hc.log
  have wg : IntKind.u64.wrap g = g := by rw [IntKind.wrap_u64]; omega
  have wn : IntKind.u64.wrap (n : Int) = (n : Int) := by rw [IntKind.wrap_u64]; omega
  have HR := hid hr
  have HN := hid hn
  have HC := hid hc
  have HG := hid hg
  clear hi hz0 hz1 hz2 hr hn hc hg
  go_enter Tryd.func17, Tryd.ntmps17
  go_upto_region 1 with fail
  obtain ⟨X, hX⟩ : ∃ X, w.heap.size = X := ⟨_, rfl⟩
  rw [hX] at HS0
  rw [hX]
  clear hX
  generalize w.alloc (.cells #[.int .i64 g, .slice (some ⟨b, off, none⟩) n cap] 24) = W0 at HS0 ⊢
  have HO0 : Hid (OwnX (W0.alloc (.cells #[.int .u64 g, .int .u64 (n : Int)] 45)) W0.heap.size (.slice (some ⟨W0.heap.size, 0, none⟩) 2 2) (wordsT c 0)) := hid (by
    have h := OwnX.two W0 W0.heap.size g (n : Int) (Nat.le_refl _)
    rw [← HG.out, ← HN.out] at h ⊢
    exact h)
  have HB0 : Hid (Below W0.heap.size W0 (W0.alloc (.cells #[.int .u64 g, .int .u64 (n : Int)] 45))) := hid ((Below.refl _ W0).alloc (Nat.le_refl _) _)
  obtain ⟨z0, z1, zl⟩ := HS0.out.box
  go_wp2_with fail
  clear z0 z1 zl wg wn
  obtain ⟨E, hE⟩ : ∃ E, W0.heap.size = E := ⟨_, rfl⟩
  rw [hE] at HO0 HB0
  rw [hE]
  have HEE := hid hE
  clear hE
  generalize W0.alloc (.cells #[.int .u64 g, .int .u64 (n : Int)] 45) = W2 at HO0 HB0 ⊢
  go_loopg [3, 4] n (fun q s i wr => ∃ (t : Nat) (v : Value), t ≤ n ∧ q = n - t ∧ s = v ∧ i = .int .i64 (t : Int) ∧ Hid (OwnX wr E v (wordsT c t)) ∧ Hid (Below E W0 wr))
  case atStart => exact ⟨0, _, by omega, rfl, rfl, rfl, HO0, HB0⟩
  case round =>
    clear HO0 HB0
    obtain ⟨t, v, ht, rfl, hv, rfl, HO, HB⟩ := hrel
    obtain rfl := hv.symm
    have hs : E ≤ wr.heap.size := by have h1 := HB.out.size; have h2 := HEE.out; omega
    have HSW : Hid (∀ W, Below E W0 W → StW w W X g (.slice (some ⟨b, off, none⟩) n cap)) := hid (fun W h => HS0.out.next (by rw [HEE.out]; exact h))
    obtain ⟨z0, z1, zl⟩ := (HSW.out _ HB.out).box
    by_cases htl : t < n
    · obtain ⟨l, hl⟩ : ∃ l, c.layers[t]? = some l := ⟨c.layers[t]'(by rw [HN.out]; exact htl), by simp⟩
      obtain ⟨b', off', eb, hcc⟩ := HR.out.kept (HSW.out _ HB.out).bel (by intro e; have := HN.out; rw [e] at this; simp at this; omega)
      cases eb
      obtain ⟨x0, x1, _, _⟩ := hcc t l hl
      rw [Nat.mul_comm 2 t] at x0 x1
      have hlr := (HC.out.layer t l hl).1
      have hfew := gates_few HC.out hl
      have hgo := (HC.out.layer t l hl).2.2
      have hbel := belowQ_rng HC.out t
      have klen := wordsT_len HC.out t
      obtain ⟨lg, hlg⟩ : ∃ x, l.log = x := ⟨_, rfl⟩
      obtain ⟨m, hm⟩ : ∃ x, l.gates.length = x := ⟨_, rfl⟩
      obtain ⟨ga, hga⟩ : ∃ x, A t = x := ⟨_, rfl⟩
      obtain ⟨gc, hgc⟩ : ∃ x, C t = x := ⟨_, rfl⟩
      have HLY : Hid (∀ W, Below E W0 W → W.cell? ⟨b, off + t * 2 + 1, none⟩ = some (.slice ga m gc) ∧ GRow W ga l.gates) := hid (fun W h => by
        obtain ⟨b', off', eb, hcc⟩ := HR.out.kept (HSW.out _ h).bel (by intro e; have := HN.out; rw [e] at this; simp at this; omega)
        cases eb
        obtain ⟨_, y1, y2, _⟩ := hcc t l hl
        rw [Nat.mul_comm 2 t, hm, hga, hgc] at y1
        rw [hga] at y2
        exact ⟨y1, y2⟩)
      rw [hlg] at x0 hlr
      rw [hm] at hfew
      have wl : IntKind.u64.wrap lg = lg := by rw [IntKind.wrap_u64]; omega
      have HL := hid (And.intro hl (And.intro hlg hm))
      have HGO := hid (And.intro hgo hbel)
      clear hcc hl hlg hm hga hgc hgo hbel x1
      have t0 : (0 : Int) ≤ (t : Int) := by omega
      have t1 : (t : Int) < (n : Int) := by omega
      go_wp2_with (at_builtin; refine wpList_append_lies _ rfl _ _ 25 rfl E 45 i0 (.int .u64 0) 1 8 Tryd.underlying25 HI.out.1 HI.out.2.1 HI.out.2.2.1 HI.out.2.2.2 rfl (by decide) v (wordsT c t).length ((wordsT c t).map (Value.int .u64)) rfl (World.ownsRow.alloc HO.out _) ⟨wr.heap.size, 0, none⟩ 1 1 [.int .u64 lg] rfl rfl (dnews wr lg _) (done1 lg) (by omega) (by unfold maxLen; omega) (by omega) (by simp; omega) (wr.heap.size + 1) (by simp) ?_)
      intro g6 c6 w6 hown6 hgrow6 hat6 hlt6
      have HX6 := hid (xsnoc (ys := [lg]) HB.out hs HO.out hown6 hgrow6)
      clear hown6 hgrow6 hat6 hlt6 HO HB wl x0 z0 z1 zl hs
      go_wp2_with fail
      go_loopg [3, 5] m (fun q s i wx => ∃ (k : Nat) (u : Value), k ≤ m ∧ q = m - k ∧ s = u ∧ i = .int .i64 (k : Int) ∧ Hid (OwnX wx E u (wordsT c t ++ lg :: gsW (l.gates.take k))) ∧ Hid (Below E W0 wx))
      case atStart => exact ⟨0, _, by omega, rfl, rfl, rfl, hid (by rw [List.take_zero]; exact HX6.out.1), hid HX6.out.2⟩
      case round =>
        clear HX6
        obtain ⟨k, u, hk, rfl, hu, rfl, HO, HB⟩ := hrel
        obtain rfl := hu.symm
        have hs : E ≤ wr.heap.size := by have h1 := HB.out.size; have h2 := HEE.out; omega
        obtain ⟨z0, z1, zl⟩ := (HSW.out _ HB.out).box
        obtain ⟨y1, hgr⟩ := HLY.out _ HB.out
        by_cases hkl : k < m
        · obtain ⟨q, hq⟩ : ∃ q, l.gates[k]? = some q := ⟨l.gates[k]'(by rw [HL.out.2.2]; exact hkl), by simp⟩
          obtain ⟨gb, go, rfl, hgc⟩ := hgr (by intro e; have := HL.out.2.2; rw [e] at this; simp at this; omega)
          obtain ⟨q0, q1, q2⟩ := hgc k q hq
          rw [Nat.mul_comm 3 k] at q0 q1 q2
          obtain ⟨⟨a0, a1⟩, b0, b1⟩ := HGO.out.1 q (List.mem_of_getElem? hq)
          obtain ⟨bk, hbk, bk4⟩ := HGO.out.2
          have h16 : 2 ^ bk ≤ 16 := Nat.le_trans (Nat.pow_le_pow_right (by omega) bk4) (by decide)
          rw [hbk, Int.toNat_natCast] at a1 b1
          have HNX : Hid (gsW (l.gates.take (k + 1)) = gsW (l.gates.take k) ++ [if q.mul = true then 1 else 0, q.a, q.b]) := hid (gsW_next hq)
          have hlen : (wordsT c t ++ lg :: gsW (l.gates.take k)).length ≤ 3 + 49 * t + 3 * k := by
            rw [List.length_append, List.length_cons]
            have := take_few l.gates k
            omega
          obtain ⟨xs, hxs⟩ : ∃ xs, wordsT c t ++ lg :: gsW (l.gates.take k) = xs := ⟨_, rfl⟩
          rw [hxs] at HO hlen
          have HXS := hid hxs
          obtain ⟨mb, hmb⟩ : ∃ x, q.mul = x := ⟨_, rfl⟩
          obtain ⟨qa, hqa⟩ : ∃ x, q.a = x := ⟨_, rfl⟩
          obtain ⟨qb, hqb⟩ : ∃ x, q.b = x := ⟨_, rfl⟩
          rw [hmb, hqa, hqb] at HNX
          rw [hmb] at q0
          rw [hqa] at q1 a0 a1
          rw [hqb] at q2 b0 b1
          have wa : IntKind.u64.wrap qa = qa := by rw [IntKind.wrap_u64]; omega
          have wb : IntKind.u64.wrap qb = qb := by rw [IntKind.wrap_u64]; omega
          clear hgc hq hmb hqa hqb hbk hxs a0 a1 b0 b1 bk4 h16 hgr
          have k0 : (0 : Int) ≤ (k : Int) := by omega
          have k1 : (k : Int) < (m : Int) := by omega
          have t0 : (0 : Int) ≤ (t : Int) := by omega
          have t1 : (t : Int) < (n : Int) := by omega
          have hal := (Below.refl wr.heap.size wr).alloc (Nat.le_refl _) (.cells #[.bool mb, .int .i64 qa, .int .i64 qb] 72)
          have HB3 := hid (HB.out.trans (hal.mono hs))
          have HO3 := hid (HO.out.kept hal)
          have hs3 : E ≤ (wr.alloc (.cells #[.bool mb, .int .i64 qa, .int .i64 qb] 72)).heap.size := by simp; omega
          have HTH : Hid (ThreeC wr.heap.size (.bool mb) (.int .i64 qa) (.int .i64 qb) (wr.alloc (.cells #[.bool mb, .int .i64 qa, .int .i64 qb] 72))) := hid ⟨by rw [World.cell?_alloc_new]; rfl, by rw [World.cell?_alloc_new]; rfl, by rw [World.cell?_alloc_new]; rfl⟩
          clear hal
          go_upto_region 10 with fail
          clear q0 q1 q2 k0 k1 z0 z1 zl y1 t0 t1
          obtain ⟨GB, hGB⟩ : ∃ x, wr.heap.size = x := ⟨_, rfl⟩
          rw [hGB] at HTH
          rw [hGB]
          clear hGB hs HO HB
          generalize wr.alloc (.cells #[.bool mb, .int .i64 qa, .int .i64 qb] 72) = W3 at HB3 HO3 HTH hs3 ⊢
          obtain ⟨th0, th1, th2⟩ := HTH.out
          cases mb with
          | true =>
            go_wp2_with (at_builtin; refine wpList_append_lies _ rfl _ _ 25 rfl E 45 i0 (.int .u64 0) 1 8 Tryd.underlying25 HI.out.1 HI.out.2.1 HI.out.2.2.1 HI.out.2.2.2 rfl (by decide) u xs.length (xs.map (Value.int .u64)) rfl (World.ownsRow.alloc HO3.out _) ⟨W3.heap.size, 0, none⟩ 3 3 [.int .u64 1, .int .u64 qa, .int .u64 qb] rfl rfl (three_news W3 1 qa qb _) (three_one 1 qa qb) (by omega) (by unfold maxLen; omega) (by omega) (by simp; omega) (W3.heap.size + 1) (by simp) ?_)
            intro g6 c6 w6 hown6 hgrow6 hat6 hlt6
            have HX6 := hid (xsnoc (ys := [1, qa, qb]) HB3.out hs3 HO3.out hown6 hgrow6)
            clear hown6 hgrow6 hat6 hlt6 HTH HO3 HB3 hs3 wa wb hlen th0 th1 th2
            go_wp2_with fail
            go_roundg (m - (k + 1))
            case measure => go_light; omega
            case rel => exact ⟨k + 1, _, by omega, rfl, rfl, by go_num, hid (by
              have hn := HNX.out
              simp only [if_pos] at hn
              rw [hn, ← List.cons_append, ← List.append_assoc, HXS.out]
              exact HX6.out.1), hid HX6.out.2⟩
          | false =>
            go_wp2_with (at_builtin; refine wpList_append_lies _ rfl _ _ 25 rfl E 45 i0 (.int .u64 0) 1 8 Tryd.underlying25 HI.out.1 HI.out.2.1 HI.out.2.2.1 HI.out.2.2.2 rfl (by decide) u xs.length (xs.map (Value.int .u64)) rfl (World.ownsRow.alloc HO3.out _) ⟨W3.heap.size, 0, none⟩ 3 3 [.int .u64 0, .int .u64 qa, .int .u64 qb] rfl rfl (three_news W3 0 qa qb _) (three_one 0 qa qb) (by omega) (by unfold maxLen; omega) (by omega) (by simp; omega) (W3.heap.size + 1) (by simp) ?_)
            intro g6 c6 w6 hown6 hgrow6 hat6 hlt6
            have HX6 := hid (xsnoc (ys := [0, qa, qb]) HB3.out hs3 HO3.out hown6 hgrow6)
            clear hown6 hgrow6 hat6 hlt6 HTH HO3 HB3 hs3 wa wb hlen th0 th1 th2
            go_wp2_with fail
            go_roundg (m - (k + 1))
            case measure => go_light; omega
            case rel => exact ⟨k + 1, _, by omega, rfl, rfl, by go_num, hid (by
              have hn := HNX.out
              simp only [Bool.false_eq_true, if_false] at hn
              rw [hn, ← List.cons_append, ← List.append_assoc, HXS.out]
              exact HX6.out.1), hid HX6.out.2⟩
        · have e : k = m := by omega
          subst e
          have k1 : ¬ ((k : Int) < (k : Int)) := by omega
          have t0 : (0 : Int) ≤ (t : Int) := by omega
          have t1 : (t : Int) < (n : Int) := by omega
          go_wp2_with fail
          go_roundg (n - (t + 1))
          case measure => go_light; omega
          case rel => exact ⟨t + 1, _, by omega, rfl, rfl, by go_num, hid (by
            have h := HO.out
            rw [List.take_of_length_le (by rw [HL.out.2.2]; exact Nat.le_refl _), ← HL.out.2.1] at h
            rw [wordsT_next HL.out.1]
            exact h), HB⟩
    · have e : t = n := by omega
      have t1 : ¬ ((t : Int) < (n : Int)) := by omega
      go_wp2_with fail
      go_ret
      refine ⟨_, rfl, ?_, (HSW.out _ HB.out).bel⟩
      have h := HO.out.own
      rw [e, ← HN.out] at h
      exact World.ownsRow.mono h (by rw [← HEE.out]; exact HS0.out.bel.size)

end Go.Proofs.YtkhacijkfjcdeaaDoor

/-
  A contract of tallyref's Drawn, of right things.
-/
namespace Go.Proofs.YtkhacijkfjcdeaaDoor
open Go.RowKit
set_option linter.unusedVariables false
attribute [local go_sem ↓] Go.wp_at_zero Go.wp_at_succ

/-- A sponge in block S, and what it has given. -/
structure DrS (W : World) (S : Nat) (g : Nat → K) (D : Nat → Int) (n : Nat) (v : Value) : Prop where
  own : Own W S v n D
  sr : Row W S 0 3 (numsK g)
  sf : Free W S 0 3
  vS : v.ownBlock ≠ some S
theorem DrS.ltS {W : World} {S : Nat} {g : Nat → K} {D : Nat → Int} {n : Nat} {v : Value} (h : DrS W S g D n v) : S < W.heap.size := h.sr.lt (by omega)
theorem DrS.kept {W W' : World} {S : Nat} {g : Nat → K} {D : Nat → Int} {n : Nat} {v : Value} (h : DrS W S g D n v) (hb : Below W.heap.size W W') : DrS W' S g D n v := ⟨h.own.kept hb, h.sr.kept hb h.ltS, h.sf.kept hb h.ltS, h.vS⟩
theorem DrS.congr {W : World} {S : Nat} {g : Nat → K} {D D' : Nat → Int} {n : Nat} {v : Value} (h : DrS W S g D n v) (e : ∀ j, j < n → D j = D' j) : DrS W S g D' n v := ⟨h.own.congr e, h.sr, h.sf, h.vS⟩
theorem DrS.turn {W W1 : World} {S : Nat} {g g' : Nat → K} {D : Nat → Int} {n : Nat} {v : Value} (h : DrS W S g D n v) (ht : Turned S W W1) (hr : Row W1 S 0 3 (numsK g')) (hf : Free W1 S 0 3) : DrS W1 S g' D n v := by
  refine ⟨⟨h.own.1, ?_⟩, hr, hf, h.vS⟩
  rcases h.own.2 with h2 | ⟨q, cap, cur, hv, hg, hh, r⟩
  · exact .inl h2
  · have hne : q ≠ S := fun e => h.vS (by rw [hv, e]; rfl)
    exact .inr ⟨q, cap, cur, hv, hg, (ht.block q (Array.getElem?_eq_some_iff.1 hh).1 hne).trans hh, r⟩
theorem DrS.put {W W1 : World} {S : Nat} {g : Nat → K} {D : Nat → Int} {n : Nat} {v : Value} {y : Int} {g2 c2 : Nat} {o : Obj} (h : DrS W S g D n v)
    (h6 : W1.ownsRow S 45 1 (.slice (some ⟨g2, 0, none⟩) (n + 1) c2) (n + 1) (cellsOf n D ++ [.int .u64 y])) (hg : (W.alloc o).grownBy W1 v.ownBlock) (hat : v.ownBlock = some g2 ∨ g2 = W.heap.size + 1) :
    DrS W1 S g (catF n D (fun _ => y)) (n + 1) (.slice (some ⟨g2, 0, none⟩) (n + 1) c2) ∧ Below S W W1 := by
  have hal := (Below.refl W.heap.size W).alloc (Nat.le_refl _) o
  have hk := h.kept hal
  have hS : W1.heap[S]? = (W.alloc o).heap[S]? := hg.block S hk.ltS fun e => h.vS e.symm
  have hlt := h.ltS
  refine ⟨⟨?_, fun j hj => (World.cell?_of_block (w := W.alloc o) hS).trans (hk.sr j hj), fun j hj => (World.frozen?_of_block (w := W.alloc o) hS).trans (hk.sf j hj), fun e => ?_⟩, ?_⟩
  · unfold Own
    rw [← cellsOf_snoc]; exact h6
  · have e2 : g2 = S := Option.some.inj e
    rcases hat with e3 | e3
    · exact h.vS (by rw [e3, e2])
    · omega
  · exact ((Below.refl S W).alloc (by omega) o).grown hg (by simp; omega) fun k e => (World.ownsRow.lt h.own k e).1
theorem tkK_small {n : Nat} (h : n ≤ 1000) (g : Nat → K) (f : Nat → Int) : tkK g n f = takesK g n f n := by unfold tkK; rw [if_pos h]
theorem hear_round (a : Asked) (z : Nat) (p : PQ) {j i : Nat} (hi : i < p.rn j) (h : p.rl j i ≤ 1000) : hearP a z p (posF p.rn j + i + 1) = ⟨mixed (takesK (hearP a z p (posF p.rn j + i)).g (p.rl j i) (p.R j i) (p.rl j i)), catF (z + (posF p.rn j + i)) (hearP a z p (posF p.rn j + i)).D (fun _ => ofK (takesK (hearP a z p (posF p.rn j + i)).g (p.rl j i) (p.R j i) (p.rl j i) 1))⟩ := by
  have m0 : PM := ⟨fun _ => none, fun _ => none, fun _ => 0, fun _ => 0, fun _ _ => none, fun _ _ => 0⟩
  obtain ⟨e1, e2, _, _⟩ := ls_round p m0 hi
  rw [hearP, Asked.hear, e1, e2, tkK_small h]
theorem hear_line (a : Asked) (z : Nat) (p : PQ) (j : Nat) (h : p.ln j ≤ 1000) : hearP a z p (posF p.rn j + p.rn j + 1) = ⟨mixed (takesK (hearP a z p (posF p.rn j + p.rn j)).g (p.ln j) (p.L j) (p.ln j)), catF (z + (posF p.rn j + p.rn j)) (hearP a z p (posF p.rn j + p.rn j)).D (fun _ => ofK (takesK (hearP a z p (posF p.rn j + p.rn j)).g (p.ln j) (p.L j) (p.ln j) 1))⟩ := by
  have m0 : PM := ⟨fun _ => none, fun _ => none, fun _ => 0, fun _ => 0, fun _ _ => none, fun _ _ => 0⟩
  obtain ⟨e1, e2, _, _⟩ := ls_line p m0 j
  rw [hearP, Asked.hear, e1, e2, tkK_small h]
def drawnOut (c : CQ) (ni no : Nat) (fi fo : Nat → Int) (p : PQ) (w : World) (e : Ending) (w' : World) : Prop := ∃ v, e = .returned v ∧ Own w' w.heap.size v (needQ c) (fiatD c ni no fi fo p) ∧ Below w.heap.size w w'

set_option maxHeartbeats 8000000 in
set_option maxRecDepth 100000 in
theorem rdrawn_any (c : CQ) (g : Int) (b off n cap : Nat) (A : Nat → Option Addr) (C : Nat → Nat) (ai ao : Option Addr) (ni ci no co : Nat) (fi fo : Nat → Int) (ap : Option Addr) (np cp : Nat) (p : PQ) (m : PM) (w : World) (hg : c.log = g) (hn : c.layers.length = n) (hr : CRow w (some ⟨b, off, none⟩) c.layers A C) (hc : c.right) (hp : p.n = np) (hpr : PfRow w ap p m) (hpn : p.nums) (hs : shapedQ c p) (hi : PRow w ai ni fi) (vi : Nums fi) (i1 : ni ≤ 1000) (ho : PRow w ao no fo) (vo : Nums fo) (o1 : no ≤ 1000) :
    Calls Tryd.prog 23 #[.agg #[.int .i64 g, .slice (some ⟨b, off, none⟩) n cap], .slice ai ni ci, .slice ao no co, .agg #[.slice ap np cp]] w fun e w' => drawnOut c ni no fi fo p w e w' := by
  obtain ⟨i0, hi0, hz0, hz1, hz2⟩ := info_parts Tryd.infoO
  have HIN := hid (And.intro hi0 (And.intro hz0 (And.intro hz1 hz2)))
  have n4 : n ≤ 4 := by have := hc.few; omega
  have n1 : 1 ≤ n := by have := List.length_pos_iff.2 hc.some; omega
  have hnp : np = n := by rw [← hp, hs.1, hn]
  obtain ⟨h8, hneed⟩ := shaped_few hc hs
  have hq40 := needQ_le hc
  obtain ⟨last, rfl⟩ : ∃ m, n = m + 1 := ⟨n - 1, by omega⟩
  obtain ⟨l0, hl0, hz0', _, _, _⟩ := parts_layer hc (j := 0) (by omega)
  rw [hn, show last + 1 - 1 - 0 = last from by omega] at hl0
  obtain ⟨lk, hlk⟩ : ∃ x, (partsQ c).lg 0 = x := ⟨_, rfl⟩
  have lk4 : lk ≤ 4 := by rw [← hlk]; exact parts_lg hc 0
  have hlog0 : l0.log = (lk : Int) := by rw [← hlk, hz0']; have := (hc.layer last l0 hl0).1; omega
  rw [hlk] at hneed
  have HS0 := hid (StQ.start w g (.slice (some ⟨b, off, none⟩) (last + 1) cap) (.slice ap np cp) 24 28)
  have HWO := hid (fun W (h : Below w.heap.size w W) => rwords_ok c g b off (last + 1) cap A C W hg hn (hr.kept h) hc)
  have HX0 : Hid (∀ W, Below w.heap.size w W → W.cell? ⟨b, off + last * 2, none⟩ = some (.int .i64 (lk : Int))) := hid (fun W h => by
    obtain ⟨b', off', eb, hcc⟩ := hr.kept h hc.some
    cases eb
    have := (hcc last l0 hl0).1
    rw [Nat.mul_comm 2 last, hlog0] at this
    exact this)
  have HI := hid (And.intro hi vi)
  have HO := hid (And.intro ho vo)
  have HVW := hid (words_nums hc)
  have hnw : (cwordsQ c).length ≤ 1000 := by have := wordsT_len hc c.layers.length; have h2 := hc.few; unfold cwordsQ; omega
  have HNW := hid hnw
  obtain ⟨G3, hG3⟩ : ∃ x, askG c ni no fi fo = x := ⟨_, rfl⟩
  have hG : takesK (takesK (takesK (mixed (newK 1)) (cwordsQ c).length (rowOf (cwordsQ c)) (cwordsQ c).length) ni fi ni) no fo no = G3 := by rw [← hG3]; unfold askG; rw [tkK_small hnw, tkK_small i1, tkK_small o1]
  obtain ⟨G1, hG1⟩ : ∃ x, takesK (mixed (newK 1)) (cwordsQ c).length (rowOf (cwordsQ c)) (cwordsQ c).length = x := ⟨_, rfl⟩
  obtain ⟨G2, hG2⟩ : ∃ x, takesK G1 ni fi ni = x := ⟨_, rfl⟩
  rw [hG1, hG2] at hG
  have HGS := hid (And.intro hG1 (And.intro hG2 hG))
  obtain ⟨a, ha⟩ : ∃ x, ask1 c ni no fi fo = x := ⟨_, rfl⟩
  have HAE : Hid (a.g = mixN G3 lk ∧ a.D = fun i => ofK (mixN G3 i 1)) := hid (by rw [← ha]; unfold ask1 ask0; rw [hG3, hlk]; exact ⟨rfl, rfl⟩)
  have HFD : Hid (fiatD c ni no fi fo p = (hearP a lk p (allL p)).D ∧ needQ c = lk + allL p) := hid ⟨by unfold fiatD; rw [ha, hlk], hneed⟩
  have HRL : Hid (∀ j, j < np → p.rn j ≤ 8 ∧ p.ln j ≤ 1000 ∧ (∀ i, i < p.rn j → p.rl j i ≤ 1000) ∧ (∀ i, i < p.rn j → Nums (p.R j i)) ∧ Nums (p.L j)) := hid (fun j hj => by
    have hj' : j < p.n := by rw [hp]; exact hj
    obtain ⟨s1, s2, s3⟩ := hs.2 j hj'
    have := parts_lg hc (j + 1)
    exact ⟨h8 j (by rw [hn, ← hnp]; exact hj), by omega, fun i hi => by rw [s3 i hi]; omega, (hpn j hj').1, (hpn j hj').2⟩)
  have HPO : Hid (∀ j, j ≤ np → posF p.rn j ≤ 9 * j) := hid (fun j hj => pos_few (n := np) (fun j hj => (HRL.out j hj).1) j hj)
  have HAL : Hid (allL p = posF p.rn np) := hid (by unfold allL; rw [hp])
  have np4 : np ≤ 4 := by omega
  have np1 : 1 ≤ np := by omega
  have HPR := hid (And.intro hp hpr)
  have HTI := hid (And.intro i1 o1)
  clear hr hc hg hn hi vi ho vo hpr hpn hs hp h8 hneed hG hG1 hG2 hG3 ha hl0 hz0' hlog0 hlk hnw hi0 hz0 hz1 hz2 hq40 i1 o1 hnp
  go_enter Tryd.func23, Tryd.ntmps23
  go_wp2_with fail
  obtain ⟨X, hX⟩ : ∃ X, w.heap.size = X := ⟨_, rfl⟩
  rw [hX] at HS0
  rw [hX]
  clear hX
  generalize (w.alloc (.cells #[.int .i64 g, .slice (some ⟨b, off, none⟩) (last + 1) cap] 24)).alloc (.cells #[.slice ap np cp] 28) = W0 at HS0 ⊢
  refine (rnew_any 1 W0 (by omega) (by omega)).mono ?_
  rintro e w1 ⟨rfl, hb, hlt, hrw, hfw⟩
  have hA1 : DrS w1 W0.heap.size (mixed (newK 1)) (fun i => ofK (mixN G3 i 1)) 0 (.slice none 0 0) := ⟨Own.nil _ _ _, hrw, hfw, fun e => by cases e⟩
  obtain ⟨S, hS⟩ : ∃ x, W0.heap.size = x := ⟨_, rfl⟩
  have HK : Hid (∀ W, Below S W0 W → StQ w W X g (.slice (some ⟨b, off, none⟩) (last + 1) cap) (.slice ap np cp)) := hid (fun W h => HS0.out.next (by rw [hS]; exact h))
  have HWS : Hid (w.heap.size ≤ S) := hid (by rw [← hS]; exact HS0.out.bel.size)
  rw [hS] at hb hA1
  rw [hS]
  have HA1 := hid hA1
  have HB1 := hid hb
  clear hb hlt hrw hfw hA1 hS HS0
  obtain ⟨z0, z1, zl⟩ := (HK.out _ HB1.out).box
  go_wp2_with fail
  refine (HWO.out _ (HK.out _ HB1.out).bel).mono ?_
  rintro e w2 ⟨vw, rfl, hown, hb⟩
  obtain ⟨aw, cw, hvw, hpw, _⟩ := hown.is
  subst hvw
  have HA2 := hid (HA1.out.kept hb)
  have HB2 := hid (HB1.out.trans (hb.mono (Nat.le_of_lt HA1.out.ltS)))
  have hnew : 0 < (cwordsQ c).length → ∀ c' o, aw = some ⟨c', o, none⟩ → c' ≠ S := fun _ c' o e => by
    have h1 := (World.ownsRow.lt hown c' (by rw [e]; rfl)).1
    have h2 := HA1.out.ltS
    omega
  have HTW := hid (rtake_any S _ aw (cwordsQ c).length cw (rowOf (cwordsQ c)) w2 HA2.out.sr HA2.out.sf HNW.out hpw HVW.out hnew)
  obtain ⟨nw, hnw⟩ : ∃ x, (cwordsQ c).length = x := ⟨_, rfl⟩
  rw [hnw] at HTW HGS
  rw [hnw]
  clear hb hown hpw hnew hnw HA1 HB1 HWO z0 z1 zl
  go_wp2_with fail
  refine (HTW.out).mono ?_
  rintro e w3 ⟨rfl, ht, hr3, hf3⟩
  rw [HGS.out.1] at hr3
  have HA3 := hid (HA2.out.turn ht hr3 hf3)
  have HB3 := hid (HB2.out.trans (ht.below (Nat.le_refl _) (Nat.le_of_lt HA2.out.ltS)))
  clear ht hr3 hf3 HA2 HB2 HTW
  go_wp2_with fail
  refine (rtake_any S _ ai ni ci fi w3 HA3.out.sr HA3.out.sf HTI.out.1 (HI.out.1.kept (HK.out _ HB3.out).bel) HI.out.2 (prow_ne HI.out.1 HWS.out)).mono ?_
  rintro e w4 ⟨rfl, ht, hr3, hf3⟩
  rw [HGS.out.2.1] at hr3
  have HA4 := hid (HA3.out.turn ht hr3 hf3)
  have HB4 := hid (HB3.out.trans (ht.below (Nat.le_refl _) (Nat.le_of_lt HA3.out.ltS)))
  clear ht hr3 hf3 HA3 HB3
  go_wp2_with fail
  refine (rtake_any S _ ao no co fo w4 HA4.out.sr HA4.out.sf HTI.out.2 (HO.out.1.kept (HK.out _ HB4.out).bel) HO.out.2 (prow_ne HO.out.1 HWS.out)).mono ?_
  rintro e w5 ⟨rfl, ht, hr3, hf3⟩
  rw [HGS.out.2.2] at hr3
  have HA5 := hid (HA4.out.turn ht hr3 hf3)
  have HB5 := hid (HB4.out.trans (ht.below (Nat.le_refl _) (Nat.le_of_lt HA4.out.ltS)))
  clear ht hr3 hf3 HA4 HB4 HGS
  go_wp2_with fail
  go_loopg [10, 11] lk (fun q s i wr => ∃ (k : Nat) (v : Value), k ≤ lk ∧ q = lk - k ∧ s = v ∧ i = .int .i64 (k : Int) ∧ Hid (DrS wr S (mixN G3 k) (fun i => ofK (mixN G3 i 1)) k v) ∧ Hid (Below S W0 wr))
  case atStart => exact ⟨0, _, by omega, rfl, rfl, rfl, HA5, HB5⟩
  case round =>
    clear HA5 HB5
    obtain ⟨k, v, hk, rfl, hv, rfl, HA, HB⟩ := hrel
    obtain rfl := hv.symm
    obtain ⟨z0, z1, zl⟩ := (HK.out _ HB.out).box
    have zx := HX0.out _ (HK.out _ HB.out).bel
    have s0 : (0 : Int) ≤ (last : Int) := by omega
    have s1 : (last : Int) < (last : Int) + 1 := by omega
    by_cases hkl : k < lk
    · have k1 : (k : Int) < (lk : Int) := by omega
      obtain ⟨y, hy⟩ : ∃ y, ofK (mixN G3 k 1) = y := ⟨_, rfl⟩
      have hgv := rgive_any S (mixN G3 k) wr HA.out.sr HA.out.sf
      rw [hy] at hgv
      have HGV := hid hgv
      have HYY := hid hy
      clear hy hgv
      go_wp2_with fail
      refine (HGV.out).mono ?_
      rintro e w6 ⟨rfl, ht, hr3, hf3⟩
      have HA6 := hid (HA.out.turn ht hr3 hf3)
      have HB6 := hid (HB.out.trans (ht.below (Nat.le_refl _) (Nat.le_of_lt HA.out.ltS)))
      have hs6 : S < w6.heap.size := HA6.out.ltS
      clear ht hr3 hf3 HA HB HGV z0 z1 zl zx s0 s1
      go_wp2_with (at_builtin; refine wpList_append_lies _ rfl _ _ 25 rfl S 45 i0 (.int .u64 0) 1 8 Tryd.underlying25 HIN.out.1 HIN.out.2.1 HIN.out.2.2.1 HIN.out.2.2.2 rfl (by decide) v k (cellsOf k (fun i => ofK (mixN G3 i 1))) rfl (World.ownsRow.alloc HA6.out.own _) ⟨w6.heap.size, 0, none⟩ 1 1 [.int .u64 y] rfl rfl (dnews w6 y _) (done1 y) (by omega) (by unfold maxLen; omega) (by omega) (by simp; omega) (w6.heap.size + 1) (by simp) ?_)
      intro g6 c6 w8 hown6 hgrow6 hat6 hlt6
      have HP7 := hid (HA6.out.put hown6 hgrow6 hat6)
      clear hown6 hgrow6 hat6 hlt6
      go_wp2_with fail
      go_roundg (lk - (k + 1))
      case measure => go_light; omega
      case rel => exact ⟨k + 1, _, by omega, rfl, rfl, by go_num, hid (HP7.out.1.congr fun j hj => by
        unfold catF
        by_cases e : j < k
        · rw [if_pos e]
        · rw [if_neg e, show j = k from by omega, HYY.out]), hid (HB6.out.trans HP7.out.2)⟩
    · have e : k = lk := by omega
      have k1 : ¬ ((k : Int) < (lk : Int)) := by omega
      have HA0 : Hid (DrS wr S (hearP a lk p (posF p.rn 0)).g (hearP a lk p (posF p.rn 0)).D (lk + posF p.rn 0) v) := hid (by
        show DrS wr S a.g a.D (lk + 0) v
        rw [HAE.out.1, HAE.out.2, ← e]
        exact HA.out)
      have HBZ := hid HB.out
      clear HA HB e
      go_wp2_with fail
      clear z0 z1 zl zx s0 s1 k1
      go_loopg [10, 12] np (fun q s i wr => ∃ (j : Nat) (v : Value), j ≤ np ∧ q = np - j ∧ s = v ∧ i = .int .i64 (j : Int) ∧ Hid (DrS wr S (hearP a lk p (posF p.rn j)).g (hearP a lk p (posF p.rn j)).D (lk + posF p.rn j) v) ∧ Hid (Below S W0 wr))
      case atStart => exact ⟨0, _, by omega, rfl, rfl, rfl, HA0, HBZ⟩
      case round =>
        clear HA0 HBZ
        obtain ⟨j, v, hj, rfl, hv, rfl, HA, HB⟩ := hrel
        obtain rfl := hv.symm
        have zp := (HK.out _ HB.out).pc
        by_cases hjl : j < np
        · have j0 : (0 : Int) ≤ (j : Int) := by omega
          have j1 : (j : Int) < (np : Int) := by omega
          obtain ⟨rn, hrn⟩ : ∃ x, p.rn j = x := ⟨_, rfl⟩
          obtain ⟨ln, hln⟩ : ∃ x, p.ln j = x := ⟨_, rfl⟩
          have HRJ := hid (HRL.out j hjl)
          have hr8 : rn ≤ 8 := by rw [← hrn]; exact HRJ.out.1
          have hpo : posF p.rn j ≤ 27 := by have := HPO.out j (by omega); omega
          have HROW : Hid (∀ W, Below w.heap.size w W → ∃ pb po, ap = some ⟨pb, po, none⟩ ∧ W.cell? ⟨pb, po + j * 2, none⟩ = some (.slice (m.ra j) rn (m.rc j)) ∧ W.cell? ⟨pb, po + j * 2 + 1, none⟩ = some (.slice (m.la j) ln (m.lc j)) ∧ LRow W (m.ra j) rn (m.A j) (p.rl j) (m.C j) (p.R j) ∧ PRow W (m.la j) ln (p.L j)) := hid (fun W h => by
            obtain ⟨pb, po, e1, hp1⟩ := HPR.out.2.kept h (by rw [HPR.out.1]; omega)
            obtain ⟨a1, a2, a3, a4⟩ := hp1 j (by rw [HPR.out.1]; exact hjl)
            rw [Nat.mul_comm 2 j, hrn] at a1
            rw [Nat.mul_comm 2 j, hln] at a2
            rw [hrn] at a3
            rw [hln] at a4
            exact ⟨pb, po, e1, a1, a2, a3, a4⟩)
          obtain ⟨ra, hra⟩ : ∃ x, m.ra j = x := ⟨_, rfl⟩
          obtain ⟨rc, hrc⟩ : ∃ x, m.rc j = x := ⟨_, rfl⟩
          obtain ⟨la, hla⟩ : ∃ x, m.la j = x := ⟨_, rfl⟩
          obtain ⟨lc, hlc⟩ : ∃ x, m.lc j = x := ⟨_, rfl⟩
          rw [hra, hrc, hla, hlc] at HROW
          obtain ⟨pb, po, hap, _⟩ := HROW.out _ (HK.out _ HB.out).bel
          subst hap
          have HRN := hid (And.intro hrn hln)
          obtain ⟨P0, hP0⟩ : ∃ x, posF p.rn j = x := ⟨_, rfl⟩
          have HP0 := hid hP0
          rw [hP0] at HA hpo
          clear hra hrc hla hlc hrn hln hP0
          go_wp2_with fail
          clear zp
          go_loopg [10, 13] rn (fun q s i wr => ∃ (i' : Nat) (v : Value), i' ≤ rn ∧ q = rn - i' ∧ s = v ∧ i = .int .i64 (i' : Int) ∧ Hid (DrS wr S (hearP a lk p (P0 + i')).g (hearP a lk p (P0 + i')).D (lk + (P0 + i')) v) ∧ Hid (Below S W0 wr))
          case atStart => exact ⟨0, _, by omega, rfl, rfl, rfl, HA, HB⟩
          case round =>
            clear HA HB
            obtain ⟨i, v, hi, rfl, hv, rfl, HA, HB⟩ := hrel
            obtain rfl := hv.symm
            have zp := (HK.out _ HB.out).pc
            obtain ⟨pb', po', eb, c0, c1, hlr, hlp⟩ := HROW.out _ (HK.out _ HB.out).bel
            injection eb with eb; injection eb with eb1 eb2
            subst eb1; subst eb2
            obtain ⟨gg, hgg⟩ : ∃ x, (hearP a lk p (P0 + i)).g = x := ⟨_, rfl⟩
            obtain ⟨DD, hDD⟩ : ∃ x, (hearP a lk p (P0 + i)).D = x := ⟨_, rfl⟩
            rw [hgg, hDD] at HA
            by_cases hil : i < rn
            · have i2 : (0 : Int) ≤ (i : Int) := by omega
              have i3 : (i : Int) < (rn : Int) := by omega
              obtain ⟨rb, ro, hra, hrr⟩ := hlr (by omega)
              subst hra
              obtain ⟨g0, g1⟩ := hrr i hil
              obtain ⟨lA, hlA⟩ : ∃ x, m.A j i = x := ⟨_, rfl⟩
              obtain ⟨lC, hlC⟩ : ∃ x, m.C j i = x := ⟨_, rfl⟩
              obtain ⟨lN, hlN⟩ : ∃ x, p.rl j i = x := ⟨_, rfl⟩
              have hl10 : lN ≤ 1000 := by rw [← hlN]; exact HRJ.out.2.2.1 i (by rw [HRN.out.1]; exact hil)
              have hstep := hear_round a lk p (j := j) (i := i) (by rw [HRN.out.1]; exact hil) (by rw [hlN]; exact hl10)
              rw [HP0.out, hgg, hDD, hlN] at hstep
              have HST := hid hstep
              rw [hlA, hlC, hlN] at g0
              rw [hlA, hlN] at g1
              have hpw : PRow w lA lN (p.R j i) := by
                obtain ⟨_, _, _, _, _, hlw, _⟩ := HROW.out _ (Below.refl _ w)
                obtain ⟨_, _, _, hw2⟩ := hlw (by omega)
                have := (hw2 i hil).2
                rw [hlA, hlN] at this
                exact this
              have HTK := hid (rtake_any S gg lA lN lC (p.R j i) wr HA.out.sr HA.out.sf hl10 g1 (HRJ.out.2.2.2.1 i (by rw [HRN.out.1]; exact hil)) (prow_ne hpw HWS.out))
              clear hrr g1 hlr hlp hstep hpw hgg hDD hlA hlC hlN c1
              go_wp2_with fail
              refine (HTK.out).mono ?_
              rintro e w6 ⟨rfl, ht, hr3, hf3⟩
              have HA6 := hid (HA.out.turn ht hr3 hf3)
              have HB6 := hid (HB.out.trans (ht.below (Nat.le_refl _) (Nat.le_of_lt HA.out.ltS)))
              clear ht hr3 hf3 HA HB HTK zp c0 g0
              obtain ⟨g7, hg7⟩ : ∃ x, takesK gg lN (p.R j i) lN = x := ⟨_, rfl⟩
              rw [hg7] at HA6 HST
              obtain ⟨y, hy⟩ : ∃ y, ofK (g7 1) = y := ⟨_, rfl⟩
              have hgv := rgive_any S g7 w6 HA6.out.sr HA6.out.sf
              rw [hy] at hgv HST
              have HGV := hid hgv
              clear hy hgv hg7
              go_wp2_with fail
              refine (HGV.out).mono ?_
              rintro e w7 ⟨rfl, ht, hr3, hf3⟩
              have HA7 := hid (HA6.out.turn ht hr3 hf3)
              have HB7 := hid (HB6.out.trans (ht.below (Nat.le_refl _) (Nat.le_of_lt HA6.out.ltS)))
              have hs7 : S < w7.heap.size := HA7.out.ltS
              clear ht hr3 hf3 HA6 HB6 HGV
              go_wp2_with (at_builtin; refine wpList_append_lies _ rfl _ _ 25 rfl S 45 i0 (.int .u64 0) 1 8 Tryd.underlying25 HIN.out.1 HIN.out.2.1 HIN.out.2.2.1 HIN.out.2.2.2 rfl (by decide) v (lk + (P0 + i)) (cellsOf (lk + (P0 + i)) DD) rfl (World.ownsRow.alloc HA7.out.own _) ⟨w7.heap.size, 0, none⟩ 1 1 [.int .u64 y] rfl rfl (dnews w7 y _) (done1 y) (by omega) (by unfold maxLen; omega) (by omega) (by simp; omega) (w7.heap.size + 1) (by simp) ?_)
              intro g6 c6 w8 hown6 hgrow6 hat6 hlt6
              have HP8 := hid (HA7.out.put hown6 hgrow6 hat6)
              clear hown6 hgrow6 hat6 hlt6
              go_wp2_with fail
              go_roundg (rn - (i + 1))
              case measure => go_light; omega
              case rel => exact ⟨i + 1, _, by omega, rfl, rfl, by go_num, hid (by
                rw [← Nat.add_assoc, HST.out]
                exact HP8.out.1), hid (HB7.out.trans HP8.out.2)⟩
            · have e : i = rn := by omega
              have i3 : ¬ ((i : Int) < (rn : Int)) := by omega
              have hl10 : ln ≤ 1000 := by rw [← HRN.out.2]; exact HRJ.out.2.1
              have hstep := hear_line a lk p j (by rw [HRN.out.2]; exact hl10)
              rw [HRN.out.1, HP0.out, ← e, hgg, hDD, HRN.out.2] at hstep
              have HST := hid hstep
              have hpw : PRow w la ln (p.L j) := by
                obtain ⟨_, _, _, _, _, _, hlw⟩ := HROW.out _ (Below.refl _ w)
                exact hlw
              have HTK := hid (rtake_any S gg la ln lc (p.L j) wr HA.out.sr HA.out.sf hl10 hlp HRJ.out.2.2.2.2 (prow_ne hpw HWS.out))
              have HPN : Hid (posF p.rn (j + 1) = P0 + i + 1) := hid (by rw [posF, HP0.out, HRN.out.1, e])
              clear hlr hlp hstep hpw hgg hDD e
              go_wp2_with fail
              refine (HTK.out).mono ?_
              rintro e w6 ⟨rfl, ht, hr3, hf3⟩
              have HA6 := hid (HA.out.turn ht hr3 hf3)
              have HB6 := hid (HB.out.trans (ht.below (Nat.le_refl _) (Nat.le_of_lt HA.out.ltS)))
              clear ht hr3 hf3 HA HB HTK zp c0 c1
              obtain ⟨g7, hg7⟩ : ∃ x, takesK gg ln (p.L j) ln = x := ⟨_, rfl⟩
              rw [hg7] at HA6 HST
              obtain ⟨y, hy⟩ : ∃ y, ofK (g7 1) = y := ⟨_, rfl⟩
              have hgv := rgive_any S g7 w6 HA6.out.sr HA6.out.sf
              rw [hy] at hgv HST
              have HGV := hid hgv
              clear hy hgv hg7
              go_wp2_with fail
              refine (HGV.out).mono ?_
              rintro e w7 ⟨rfl, ht, hr3, hf3⟩
              have HA7 := hid (HA6.out.turn ht hr3 hf3)
              have HB7 := hid (HB6.out.trans (ht.below (Nat.le_refl _) (Nat.le_of_lt HA6.out.ltS)))
              have hs7 : S < w7.heap.size := HA7.out.ltS
              clear ht hr3 hf3 HA6 HB6 HGV
              go_wp2_with (at_builtin; refine wpList_append_lies _ rfl _ _ 25 rfl S 45 i0 (.int .u64 0) 1 8 Tryd.underlying25 HIN.out.1 HIN.out.2.1 HIN.out.2.2.1 HIN.out.2.2.2 rfl (by decide) v (lk + (P0 + i)) (cellsOf (lk + (P0 + i)) DD) rfl (World.ownsRow.alloc HA7.out.own _) ⟨w7.heap.size, 0, none⟩ 1 1 [.int .u64 y] rfl rfl (dnews w7 y _) (done1 y) (by omega) (by unfold maxLen; omega) (by omega) (by simp; omega) (w7.heap.size + 1) (by simp) ?_)
              intro g6 c6 w8 hown6 hgrow6 hat6 hlt6
              have HP8 := hid (HA7.out.put hown6 hgrow6 hat6)
              clear hown6 hgrow6 hat6 hlt6
              go_wp2_with fail
              go_roundg (np - (j + 1))
              case measure => go_light; omega
              case rel => exact ⟨j + 1, _, by omega, rfl, rfl, by go_num, hid (by
                rw [HPN.out, HST.out, show lk + (P0 + i + 1) = lk + (P0 + i) + 1 from by omega]
                exact HP8.out.1), hid (HB7.out.trans HP8.out.2)⟩
        · have e : j = np := by omega
          have j1 : ¬ ((j : Int) < (np : Int)) := by omega
          have HBE := hid (HK.out _ HB.out).bel
          go_wp2_with fail
          go_ret
          refine ⟨_, rfl, ?_, HBE.out⟩
          rw [HFD.out.2, HFD.out.1, HAL.out, ← e]
          exact World.ownsRow.mono HA.out.own HWS.out

end Go.Proofs.YtkhacijkfjcdeaaDoor

/-
  A contract of the law FiatVerifies, for every circuit, all lists and all proofs: it answers true.
-/
namespace Go.Proofs.YtkhacijkfjcdeaaDoor
open Go.RowKit
set_option linter.unusedVariables false
attribute [local go_sem ↓] Go.wp_at_zero Go.wp_at_succ

abbrev ThrV (X : Nat) (u v p : Value) (W : World) : Prop := W.cell? ⟨X, 0, none⟩ = some u ∧ W.cell? ⟨X, 1, none⟩ = some v ∧ W.cell? ⟨X + 1, 0, none⟩ = some p
theorem ThrV.kept {X : Nat} {u v p : Value} {W W' : World} (h : ThrV X u v p W) (hb : Below W.heap.size W W') : ThrV X u v p W' := by
  have k : ∀ (a : Addr) (z : Value), W.cell? a = some z → W'.cell? a = some z := fun a z hz => (hb.cell (World.block_lt_of_cell? W _ hz)).trans hz
  exact ⟨k _ _ h.1, k _ _ h.2.1, k _ _ h.2.2⟩
set_option maxHeartbeats 8000000 in
set_option maxRecDepth 100000 in
theorem fver_any (c : CQ) (g : Int) (ao : Option Addr) (n cap : Nat) (A : Nat → Option Addr) (C : Nat → Nat) (ai ay : Option Addr) (ni ci no co : Nat) (fi fo : Nat → Int) (ap : Option Addr) (np cp : Nat) (p : PQ) (m : PM) (w : World) (ht : Tab w) (hg : c.log = g) (hn : c.layers.length = n) (hr : CRow w ao c.layers A C) (hi : PRow w ai ni fi) (vi : Nums fi) (ho : PRow w ay no fo) (vo : Nums fo) (hp : p.n = np) (hpr : PfRow w ap p m) (hpn : p.nums) (n63 : ni ≤ maxLen) (o63 : no ≤ maxLen) :
    Calls Tryd.prog 5 #[.agg #[.int .i64 g, .slice ao n cap], .slice ai ni ci, .slice ay no co, .agg #[.slice ap np cp]] w fun e w' => e = .returned (.bool true) ∧ Below w.heap.size w w' := by
  have HS0 := hid (StQ.start w g (.slice ao n cap) (.slice ap np cp) 24 28)
  have HCI := hid (fun W (h : Below w.heap.size w W) => rcirc_any c g ao n cap A C W hg hn (hr.kept h))
  have HR := hid hr
  have HG := hid hg
  have HN := hid hn
  have HT := hid (fun W (h : Below w.heap.size w W) => ht.kept h ht.1)
  have HI := hid (And.intro hi vi)
  have HO := hid (And.intro ho vo)
  have HPP := hid (And.intro hp (And.intro hpr hpn))
  have n63' : (ni : Int) ≤ 9223372036854775807 := by have : maxLen ≤ 9223372036854775807 := by decide
                                                     omega
  have o63' : (no : Int) ≤ 9223372036854775807 := by have : maxLen ≤ 9223372036854775807 := by decide
                                                     omega
  clear hr hg hn ht hi vi ho vo hp hpr hpn n63 o63
  obtain ⟨z0, z1, zl⟩ := HS0.out.box
  go_enter Tryd.func5, Tryd.ntmps5
  go_wp2_with fail
  obtain ⟨X, hX⟩ : ∃ X, w.heap.size = X := ⟨_, rfl⟩
  rw [hX] at HS0
  rw [hX]
  clear hX z0 z1 zl
  generalize (w.alloc (.cells #[.int .i64 g, .slice ao n cap] 24)).alloc (.cells #[.slice ap np cp] 28) = W0 at HS0 ⊢
  refine (HCI.out _ HS0.out.bel).mono ?_
  rintro e w1 ⟨y, rfl, hy, hb⟩
  have HS1 := hid (HS0.out.next hb)
  have HYE := hid hy
  clear hb hy HS0 HCI
  obtain ⟨z0, z1, zl⟩ := HS1.out.box
  have zp := HS1.out.pc
  by_cases hy0 : y = 0
  · subst hy0
    have HC := hid (checkE_zero.1 HYE.out)
    obtain ⟨b, off, rfl⟩ := right_addr HC.out HR.out
    obtain ⟨gn, N, rfl, gn4, sh, hN, N1, N16, hNk⟩ := right_nums HG.out HN.out HC.out
    obtain ⟨last, lk, M, l, hlast, hl, hlg, lk4, shM, hM⟩ := top_nums HN.out HC.out
    subst hlast
    have HNM := hid (And.intro hNk hM)
    have HX0 : Hid (∀ W, Below w.heap.size w W → W.cell? ⟨b, off + last * 2, none⟩ = some (.int .i64 (lk : Int))) := hid (fun W h => by
      obtain ⟨b', off', eb, hcc⟩ := HR.out.kept h HC.out.some
      cases eb
      have := (hcc last l hl).1
      rw [Nat.mul_comm 2 last, hlg] at this
      exact this)
    have M16 : M ≤ 16 := by rw [hM]; exact Nat.le_trans (Nat.pow_le_pow_right (by omega) (parts_lg HC.out 0)) (by decide)
    have HEN : Hid (endsQ c ni no ↔ ni = N ∧ no = M) := hid (by unfold endsQ; rw [HN.out, ← hNk, ← hM])
    have n4 : last + 1 ≤ 4 := by have := HC.out.few; have := HN.out; omega
    clear hN hNk hM hl hlg
    have gn0 : (0 : Int) ≤ (gn : Int) := by omega
    have lk0 : (0 : Int) ≤ (lk : Int) := by omega
    have s0 : (0 : Int) ≤ (last : Int) := by omega
    have s1 : (last : Int) < (last : Int) + 1 := by omega
    -- where the form is not right, Verify says so
    have HVB : Hid (∀ W, Below w.heap.size w W → ¬ (shapedQ c p ∧ endsQ c ni no) → Calls Tryd.prog 22 #[.agg #[.int .i64 (gn : Int), .slice (some ⟨b, off, none⟩) (last + 1) cap], .slice ai ni ci, .slice ay no co, .agg #[.slice ap np cp]] W fun e w' => e = .returned (.tuple #[.bool false, .int .i64 4]) ∧ Below W.heap.size W w') := hid (fun W h hno => by
      by_cases hsh : shapedQ c p
      · refine (fvf_run c (gn : Int) b off (last + 1) cap A C ai ay ni ci no co fi fo ap np cp p m W (fun r x => r = false ∧ x = 4) HG.out HN.out (HR.out.kept h) HC.out HPP.out.1 (HPP.out.2.1.kept h) HPP.out.2.2 hsh (HI.out.1.kept h) HI.out.2 (HO.out.1.kept h) HO.out.2 (hid fun W' bd cd h' _ _ _ => ?_)).mono ?_
        · have h2 := h.trans (h'.mono h.size)
          refine (vf_ends c (gn : Int) b off (last + 1) cap A C ap np cp p m ai ay (some ⟨bd, 0, none⟩) ni ci no co (needQ c) cd W' HG.out HN.out (HR.out.kept h2) HC.out HPP.out.1 (HPP.out.2.1.kept h2) hsh (fun h3 => hno ⟨hsh, h3⟩)).mono ?_
          rintro e w' ⟨rfl, hb⟩
          exact ⟨false, 4, rfl, ⟨rfl, rfl⟩, hb⟩
        · rintro e w' ⟨r, x, rfl, ⟨rfl, rfl⟩, hb⟩
          exact ⟨rfl, hb⟩
      · exact fvf_form (gn : Int) (some ⟨b, off, none⟩) (last + 1) cap ap np cp ai ay ni ci no co 4 W (by omega) (fun W' h' => form_is (cap := cap) (cp := cp) (x := 4) HG.out HN.out HR.out HC.out HPP.out.1 HPP.out.2.1 (.inr (.inr ⟨HC.out, hsh, rfl⟩)) W' (h.trans (h'.mono h.size))))
    have zx := HX0.out _ HS1.out.bel
    by_cases hi : ni = N
    · by_cases ho : no = M
      · have k1 : ((ni : Int) != (N : Int)) = false := by simp; omega
        have k2 : ((no : Int) != (M : Int)) = false := by simp; omega
        have HEY := hid (HEN.out.2 ⟨hi, ho⟩)
        have i1 : 0 < ni := by omega
        have o1 : 0 < no := by have h := HEY.out.2; rw [h]; exact Nat.two_pow_pos _
        have i9 : ni ≤ 1000 := by omega
        have o9 : no ≤ 1000 := by omega
        clear hi ho
        go_wp2_with fail
        refine (rshaped_any c (gn : Int) b off (last + 1) cap A C ap np cp p m w1 HG.out HN.out (HR.out.kept HS1.out.bel) HC.out HPP.out.1 (HPP.out.2.1.kept HS1.out.bel)).mono ?_
        rintro e w2 ⟨r, rfl, hrs, hb⟩
        have HS2 := hid (HS1.out.next hb)
        have HRS := hid hrs
        clear hb hrs HS1 z0 z1 zl zp zx
        obtain ⟨z0, z1, zl⟩ := HS2.out.box
        have zp := HS2.out.pc
        cases r with
        | false =>
          have HVE := hid (HVB.out _ HS2.out.bel (fun h => by have := HRS.out.2 h.1; revert this; simp))
          clear HRS
          go_wp2_with fail
          refine (HVE.out).mono ?_
          rintro e w4 ⟨rfl, hb⟩
          have HS4 := hid (HS2.out.next hb)
          clear hb HS2 z0 z1 zl zp
          go_wp2_with fail
          go_quiet (fail)
          have HS5 : Hid (Below w.heap.size w (w4.drewN nq)) := hid ⟨HS4.out.bel.os, HS4.out.bel.tape, HS4.out.bel.output, HS4.out.bel.size, HS4.out.bel.block⟩
          go_wp2_with fail
          go_ret
          exact ⟨rfl, HS5.out⟩
        | true =>
          have HSP := hid (HRS.out.1 (by first | rfl | trivial))
          clear HRS
          obtain ⟨bi, oi, rfl, hri⟩ := row_of HI.out.1 i1
          obtain ⟨bo, oo, rfl, hro⟩ := row_of HO.out.1 o1
          have HRI := hid (And.intro hri hro)
          have HVF := hid (fvf_ok c (gn : Int) b off (last + 1) cap A C bi oi ni ci bo oo no co fi fo ap np cp p m w2 HG.out HN.out (HR.out.kept HS2.out.bel) HC.out HPP.out.1 (HPP.out.2.1.kept HS2.out.bel) HPP.out.2.2 HSP.out HEY.out (hri.kept HS2.out.bel (hri.lt i1)) HI.out.2 (hro.kept HS2.out.bel (hro.lt o1)) HO.out.2 (HT.out _ HS2.out.bel))
          clear hri hro
          go_wp2_with fail
          refine (HVF.out).mono ?_
          rintro e w4 ⟨r, x, rfl, ⟨rfl, hrr⟩, hb⟩
          have HS4 := hid (HS2.out.next hb)
          have HRR := hid hrr
          clear hb hrr HS2 z0 z1 zl zp HVF
          have HDW : Hid (∀ W, Below w.heap.size w W → Calls Tryd.prog 23 #[.agg #[.int .i64 (gn : Int), .slice (some ⟨b, off, none⟩) (last + 1) cap], .slice (some ⟨bi, oi, none⟩) ni ci, .slice (some ⟨bo, oo, none⟩) no co, .agg #[.slice ap np cp]] W fun e w' => drawnOut c ni no fi fo p W e w') := hid (fun W h => rdrawn_any c (gn : Int) b off (last + 1) cap A C (some ⟨bi, oi, none⟩) (some ⟨bo, oo, none⟩) ni ci no co fi fo ap np cp p m W HG.out HN.out (HR.out.kept h) HC.out HPP.out.1 (HPP.out.2.1.kept h) HPP.out.2.2 HSP.out (HI.out.1.kept h) HI.out.2 i9 (HO.out.1.kept h) HO.out.2 o9)
          have HHO : Hid (∀ W v, Below w.heap.size w W → Own W w.heap.size v (needQ c) (fiatD c ni no fi fo p) → Calls Tryd.prog 13 #[.agg #[.int .i64 (gn : Int), .slice (some ⟨b, off, none⟩) (last + 1) cap], .slice (some ⟨bi, oi, none⟩) ni ci, .slice (some ⟨bo, oo, none⟩) no co, .agg #[.slice ap np cp], v] W fun e w' => e = .returned (.bool r) ∧ Below W.heap.size W w') := hid (fun W v h hv => by
            have q1 : 1 ≤ needQ c := by have h := at_fits (c := c) (j := 0) (List.length_pos_iff.2 HC.out.some); omega
            have hrow : ∃ bd cd, v = .slice (some ⟨bd, 0, none⟩) (needQ c) cd ∧ needQ c ≤ cd ∧ cd ≤ maxLen := by
              rcases hv.2 with ⟨_, h0⟩ | ⟨gg, cc, cur, hv2, _, _, h1, h2, _⟩
              · omega
              · exact ⟨gg, cc, hv2, h1, h2⟩
            obtain ⟨bd, cd, rfl, hcd, hcm⟩ := hrow
            refine (rholds_any c (gn : Int) b off (last + 1) cap A C bi oi ni ci bo oo no co fi fo ap np cp p m bd 0 (needQ c) cd (fiatD c ni no fi fo p) W HG.out HN.out (HR.out.kept h) HC.out HPP.out.1 (HPP.out.2.1.kept h) HPP.out.2.2 HSP.out (HRI.out.1.kept h (HRI.out.1.lt i1)) HI.out.2 (by rw [← HN.out]; exact HEY.out.1) (HRI.out.2.kept h (HRI.out.2.lt o1)) HO.out.2 HEY.out.2 (row_own hv) (fiatD_nums _ _ _ _ _ _) rfl hcd hcm).mono ?_
            rintro e w' ⟨r2, rfl, hr2, hb⟩
            exact ⟨by rw [bool_iff HRR.out hr2], hb⟩)
          have e9 : (r == r) = true := by simp
          have nc : ThrV X (.int .i64 (gn : Int)) (.slice (some ⟨b, off, none⟩) (last + 1) cap) (.slice ap np cp) w4 := ⟨HS4.out.box.c0, HS4.out.box.c1, HS4.out.pc⟩
          go_wp2_with fail
          go_region_held3 (ThrV X (.int .i64 (gn : Int)) (.slice (some ⟨b, off, none⟩) (last + 1) cap) (.slice ap np cp)) (first | assumption | exact nca | exact ncb) (first
            | (go_at_call 23; refine (HDW.out _ HS4.out.bel.drew).mono ?_; rintro e wa ⟨v, rfl, hov, hb⟩; have hba : Below w4.heap.size w4 wa := (Below.refl _ w4).drew.trans hb; have nca := nc.kept hba; have HOV := hid hov; clear hb hov)
            | (go_at_call 13; refine (HHO.out wa v (HS4.out.next hba).bel (World.ownsRow.mono HOV.out HS4.out.bel.size)).mono ?_; rintro e wb ⟨rfl, hb⟩; have hbb : Below wa.heap.size wa wb := hb; have ncb := nca.kept hbb; clear hb))
          have HS6 := hid ((HS4.out.next hba).next hbb)
          clear nc nca ncb hba hbb HOV HDW HHO
          go_wp2_with fail
          go_ret
          exact ⟨by first | rfl | simp, HS6.out.bel⟩
      · have HVE := hid (HVB.out _ HS1.out.bel (fun h => by have := HEN.out.1 h.2; omega))
        have k1 : ((ni : Int) != (N : Int)) = false := by simp; omega
        have k2 : ((no : Int) != (M : Int)) = true := by simp; omega
        clear hi ho
        go_wp2_with fail
        refine (HVE.out).mono ?_
        rintro e w4 ⟨rfl, hb⟩
        have HS4 := hid (HS1.out.next hb)
        clear hb HS1 z0 z1 zl zp
        go_wp2_with fail
        go_quiet (fail)
        have HS5 : Hid (Below w.heap.size w (w4.drewN nq)) := hid ⟨HS4.out.bel.os, HS4.out.bel.tape, HS4.out.bel.output, HS4.out.bel.size, HS4.out.bel.block⟩
        go_wp2_with fail
        go_ret
        exact ⟨rfl, HS5.out⟩
    · have HVE := hid (HVB.out _ HS1.out.bel (fun h => by have := HEN.out.1 h.2; omega))
      have k1 : ((ni : Int) != (N : Int)) = true := by simp; omega
      clear hi
      go_wp2_with fail
      refine (HVE.out).mono ?_
      rintro e w4 ⟨rfl, hb⟩
      have HS4 := hid (HS1.out.next hb)
      clear hb HS1 z0 z1 zl zp
      go_wp2_with fail
      go_quiet (fail)
      have HS5 : Hid (Below w.heap.size w (w4.drewN nq)) := hid ⟨HS4.out.bel.os, HS4.out.bel.tape, HS4.out.bel.output, HS4.out.bel.size, HS4.out.bel.block⟩
      go_wp2_with fail
      go_ret
      exact ⟨rfl, HS5.out⟩
  · have e1 : (y == 0) = false := beq_eq_false_iff_ne.2 hy0
    have HFB := hid (fun W (h : Below w.heap.size w W) => form_bad c g ao n cap A C ap np cp y W HG.out HN.out (HR.out.kept h) HYE.out hy0)
    have HVE := hid (fvf_form g ao n cap ap np cp ai ay ni ci no co y w1 hy0 (fun W h => HFB.out W (HS1.out.next h).bel))
    clear hy0
    have e3 : (y == y) = true := by simp
    go_wp2_with fail
    refine (HVE.out).mono ?_
    rintro e w4 ⟨rfl, hb⟩
    have HS4 := hid (HS1.out.next hb)
    clear hb HS1 z0 z1 zl zp
    go_wp2_with fail
    go_quiet (fail)
    have HS5 : Hid (Below w.heap.size w (w4.drewN nq)) := hid ⟨HS4.out.bel.os, HS4.out.bel.tape, HS4.out.bel.output, HS4.out.bel.size, HS4.out.bel.block⟩
    go_wp2_with fail
    go_ret
    exact ⟨rfl, HS5.out⟩

end Go.Proofs.YtkhacijkfjcdeaaDoor

/-
  What a list of lists of numbers that came in gives the walk.
-/
namespace Go.Proofs.YtkhacijkfjcdeaaDoor
open Go.ChangeShapes Go.WideShapes Go.RowKit
set_option linter.unusedVariables false

/-- A list of lists of numbers of 64 bits that came in. -/
def IsLists (w : World) (a : Option Addr) (len cap : Nat) (A : Nat → Option Addr) (L C : Nat → Nat) (F : Nat → Nat → Int) : Prop :=
  LRow w a len A L C F ∧ len ≤ maxLen ∧ (∀ i, i < len → Nums (F i) ∧ L i ≤ maxLen) ∧ len ≤ cap
theorem u64_of_wf {a : Int} (h : (Lit.int .u64 a).wf = true) : 0 ≤ a ∧ a ≤ 18446744073709551615 := by
  simp [Lit.wf, IntKind.min, IntKind.max, IntKind.signed, IntKind.bits] at h
  omega
theorem nums_of_wf {zs : List Int} (h : ∀ n ∈ zs, (Lit.int .u64 n).wf = true) : Nums (fun j => zs.getD j 0) := fun j => by
  dsimp only
  by_cases hj : j < zs.length
  · have : zs.getD j 0 = zs[j] := by simp [List.getD, hj]
    rw [this]
    exact u64_of_wf (h _ (List.getElem_mem hj))
  · have : zs.getD j 0 = 0 := by simp [List.getD, hj]
    rw [this]; omega
theorem cell_at {w : World} {a : Addr} {u : Value} (h : w.cell? (a.add 0) = some u) : ∃ b off, a = ⟨b, off, none⟩ := by
  obtain ⟨b, off, spot⟩ := a
  have hspot : spot = none := by simpa [Addr.add] using World.cell?_spot h
  subst hspot
  exact ⟨b, off, rfl⟩
theorem lists_of {H : Type} {enc : TypeId × Value → H} {W : World} {base : Nat} {held : Bool} {fuel : Nat} {a : Option Addr} {len cap : Nat} {x : DataW H × List MemPlace}
    (h : DataW.trod enc Tryd.prog W base (fun _ => true) held fuel 60 (Value.slice a len cap).cells.toList = some x) : ∃ A L C F, IsLists W a len cap A L C F := by
  rcases Deep.open_int_rows Tryd.underlying60 Tryd.underlying25 Tryd.underlying45 (by kernel_rfl) (by kernel_rfl) h with ⟨hcs, _⟩ | ⟨a', len', cap', A, L, C, Z, hcs, _, hl, hm, _, hr⟩
  · simp [Value.cells] at hcs
    obtain ⟨rfl, rfl, rfl⟩ := hcs
    exact ⟨fun _ => none, fun _ => 0, fun _ => 0, fun _ _ => 0, fun h0 => absurd h0 (by omega), Nat.zero_le _, fun i hi => absurd hi (by omega), Nat.zero_le _⟩
  · simp [Value.cells] at hcs
    obtain ⟨rfl, rfl, rfl⟩ := hcs
    refine ⟨A, L, C, fun i j => (Z i).getD j 0, fun h0 => ?_, Nat.le_trans hl hm, fun i hi => ?_, hl⟩
    · obtain ⟨b, off, rfl⟩ := cell_at (hr 0 (by omega)).1
      refine ⟨b, off, rfl, fun i hi => ?_⟩
      obtain ⟨h1, h2, h3, h4, h5, h6, h7⟩ := hr i (by omega)
      refine ⟨by rw [← add_plain]; exact h1, fun hp => ?_⟩
      cases hA : A i with
      | none => exact absurd (h6 hA) (by omega)
      | some a2 =>
        obtain ⟨_, hc⟩ := h7 a2 hA
        obtain ⟨b2, off2, rfl⟩ := cell_at (hc 0 (by omega))
        exact ⟨b2, off2, rfl, fun j hj => by rw [← add_plain]; exact hc j (by omega)⟩
    · obtain ⟨h1, h2, h3, h4, h5, h6, h7⟩ := hr i (by omega)
      exact ⟨nums_of_wf h5, Nat.le_trans h2 h3⟩

end Go.Proofs.YtkhacijkfjcdeaaDoor

/-
  What a proof (api.Proof) that came in gives the walk.
-/
namespace Go.Proofs.YtkhacijkfjcdeaaDoor
open Go.ChangeShapes Go.WideShapes Go.RowKit Go.Deep
set_option linter.unusedVariables false

theorem part_cells : Tryd.prog.cellsOf 74 = 2 := by kernel_rfl
theorem proof_cells : Tryd.prog.cellsOf 28 = 1 := by kernel_rfl
theorem parts_cells : Tryd.prog.cellsOf 26 = 1 := by kernel_rfl
theorem rows_cells : Tryd.prog.cellsOf 60 = 1 := by kernel_rfl
theorem row_cells1 : Tryd.prog.cellsOf 25 = 1 := by kernel_rfl
section
variable {H : Type} {enc : TypeId × Value → H} {W : World} {base : Nat} {held : Bool}
/-- A list of numbers that came in. -/
theorem nums_of {fuel : Nat} {cs : List Value} {x : DataW H × List MemPlace} (h : DataW.trod enc Tryd.prog W base (fun _ => true) held fuel 25 cs = some x) :
    ∃ a len cap f, cs = [.slice a len cap] ∧ PRow W a len f ∧ Nums f ∧ len ≤ cap ∧ cap ≤ maxLen := by
  rcases open_ints Tryd.underlying25 Tryd.underlying45 (by kernel_rfl) h with ⟨hcs, _⟩ | ⟨a, len, cap, zs, hcs, _, hl, hm, hz, _, hc, hw⟩
  · exact ⟨none, 0, 0, fun _ => 0, hcs, fun h0 => absurd h0 (by omega), fun _ => by dsimp only; omega, Nat.le_refl _, Nat.zero_le _⟩
  · simp only [if_true] at hz
    refine ⟨some a, len, cap, fun j => zs.getD j 0, hcs, fun h0 => ?_, nums_of_wf hw, hl, hm⟩
    obtain ⟨b, off, rfl⟩ := cell_at (hc 0 (by omega))
    exact ⟨b, off, rfl, fun j hj => by rw [← add_plain]; exact hc j (by omega)⟩
set_option maxRecDepth 100000 in
theorem part_of {fuel : Nat} {v0 v1 : Value} {x : DataW H × List MemPlace} (h : DataW.trod enc Tryd.prog W base (fun _ => true) held fuel 74 [v0, v1] = some x) :
    ∃ ra rn rc la ln lc A L C F G, v0 = .slice ra rn rc ∧ v1 = .slice la ln lc ∧ LRow W ra rn A L C F ∧ PRow W la ln G ∧ (∀ i, i < rn → Nums (F i) ∧ L i ≤ maxLen) ∧ Nums G ∧ rn ≤ maxLen ∧ ln ≤ maxLen := by
  obtain ⟨y0, y1, k, _, _, g0, g1⟩ := trod_struct2 Tryd.underlying74 h
  simp [rows_cells, row_cells1] at g0 g1
  obtain ⟨la, ln, lc, G, e1, h1, h2, h3, h4⟩ := nums_of g1
  simp at e1
  subst e1
  obtain ⟨ra, rn, rc, rfl⟩ : ∃ ra rn rc, v0 = .slice ra rn rc := by
    rcases open_slice Tryd.underlying60 g0 with ⟨e, _⟩ | ⟨_, _, _, _, _, _, _, e, _⟩
    · simp at e; exact ⟨_, _, _, e⟩
    · simp at e; exact ⟨_, _, _, e⟩
  obtain ⟨A, L, C, F, hL⟩ := lists_of (a := ra) (len := rn) (cap := rc) (by simpa [Value.cells] using g0)
  exact ⟨ra, rn, rc, la, ln, lc, A, L, C, F, G, rfl, rfl, hL.1, h1, hL.2.2.1, h2, hL.2.1, Nat.le_trans h3 h4⟩
set_option maxRecDepth 100000 in
theorem parts_of {fuel : Nat} {a : Option Addr} {len cap : Nat} {x : DataW H × List MemPlace}
    (h : DataW.trod enc Tryd.prog W base (fun _ => true) held fuel 26 [Value.slice a len cap] = some x) : ∃ (p : PQ) (m : PM), IsPrf W a len cap p m := by
  rcases open_slice Tryd.underlying26 h with ⟨hcs, _⟩ | ⟨a', len', cap', mm, n, D, Pl, hcs, _, hl, hm, hmm, _, hx⟩
  · simp at hcs
    obtain ⟨rfl, rfl, rfl⟩ := hcs
    exact ⟨⟨0, fun _ => 0, fun _ => 0, fun _ _ => 0, fun _ _ _ => 0, fun _ _ => 0⟩, ⟨fun _ => none, fun _ => none, fun _ => 0, fun _ => 0, fun _ _ => none, fun _ _ => 0⟩, rfl, Nat.le_refl _, Nat.zero_le _, fun h => absurd h (Nat.lt_irrefl 0), fun j hj => absurd hj (Nat.not_lt_zero j), fun j hj => absurd hj (Nat.not_lt_zero j)⟩
  · simp at hcs
    obtain ⟨rfl, rfl, rfl⟩ := hcs
    simp only [if_true] at hmm
    have each : ∀ i, i < len → ∃ y : (Option Addr × Nat × Nat) × (Option Addr × Nat × Nat) × ((Nat → Option Addr) × (Nat → Nat) × (Nat → Nat)) × (Nat → Nat → Int) × (Nat → Int),
        W.cell? (a'.add (2 * i)) = some (.slice y.1.1 y.1.2.1 y.1.2.2) ∧ W.cell? (a'.add (2 * i + 1)) = some (.slice y.2.1.1 y.2.1.2.1 y.2.1.2.2) ∧
        LRow W y.1.1 y.1.2.1 y.2.2.1.1 y.2.2.1.2.1 y.2.2.1.2.2 y.2.2.2.1 ∧ PRow W y.2.1.1 y.2.1.2.1 y.2.2.2.2 ∧ (∀ k, k < y.1.2.1 → Nums (y.2.2.2.1 k) ∧ y.2.2.1.2.1 k ≤ maxLen) ∧ Nums y.2.2.2.2 ∧ y.1.2.1 ≤ maxLen ∧ y.2.1.2.1 ≤ maxLen := by
      intro i hi
      obtain ⟨cs', h1, h2⟩ := hx i (by omega)
      rw [part_cells] at h1
      obtain ⟨_, hlen, hcell⟩ := World.cells?_some h1
      match cs', hlen with
      | [v0, v1], _ =>
        obtain ⟨ra, rn, rc, la, ln, lc, A, L, C, F, G, e0, e1, p1, p2, p3, p4, p5, p6⟩ := part_of h2
        subst e0
        subst e1
        have c0 := hcell 0 (by omega)
        have c1 := hcell 1 (by omega)
        rw [add_two] at c0 c1
        exact ⟨((ra, rn, rc), (la, ln, lc), (A, L, C), F, G), by simpa using c0, by simpa using c1, p1, p2, p3, p4, p5, p6⟩
    haveI : Inhabited ((Option Addr × Nat × Nat) × (Option Addr × Nat × Nat) × ((Nat → Option Addr) × (Nat → Nat) × (Nat → Nat)) × (Nat → Nat → Int) × (Nat → Int)) := ⟨((none, 0, 0), (none, 0, 0), (fun _ => none, fun _ => 0, fun _ => 0), fun _ _ => 0, fun _ => 0)⟩
    obtain ⟨f, hf⟩ := choose_lt each
    refine ⟨⟨len, fun j => (f j).1.2.1, fun j => (f j).2.1.2.1, fun j => (f j).2.2.1.2.1, fun j => (f j).2.2.2.1, fun j => (f j).2.2.2.2⟩, ⟨fun j => (f j).1.1, fun j => (f j).2.1.1, fun j => (f j).1.2.2, fun j => (f j).2.1.2.2, fun j => (f j).2.2.1.1, fun j => (f j).2.2.1.2.2⟩, rfl, hl, hm, fun h0 => ?_, fun j hj => ?_, fun j hj => ?_⟩
    · obtain ⟨b, off, rfl⟩ := cell_spot (by simpa using (hf 0 h0).1)
      refine ⟨b, off, rfl, fun j hj => ?_⟩
      obtain ⟨c0, c1, c2, c3, _⟩ := hf j hj
      rw [Addr.add_lit] at c0 c1
      exact ⟨c0, c1, c2, c3⟩
    · obtain ⟨_, _, _, _, c4, c5, _⟩ := hf j hj
      exact ⟨fun i hi => (c4 i hi).1, c5⟩
    · obtain ⟨_, _, _, _, c4, _, c6, c7⟩ := hf j hj
      exact ⟨c6, c7, fun i hi => (c4 i hi).2⟩
set_option maxRecDepth 100000 in
theorem prf_val {v : Value} {d : DataW H} {p : List MemPlace} (hv : Value.okWide Tryd.prog W .any base 28 v) (h : DataW.Trod enc Tryd.prog W 0 (fun _ => true) true 28 v d p) :
    ∃ a len cap, v = .agg #[.slice a len cap] := by
  obtain ⟨cs, rfl, hs⟩ := okWide_struct Tryd.underlying28 hv
  obtain ⟨fuel, hf⟩ := h
  obtain ⟨y0, k, _, _, g0⟩ := trod_struct1 Tryd.underlying28 hf
  rw [proof_cells] at hs
  obtain ⟨l⟩ := cs
  match l, hs with
  | [v0], _ =>
    simp [Value.cells, parts_cells] at g0
    rcases open_slice Tryd.underlying26 g0 with ⟨e, _⟩ | ⟨_, _, _, _, _, _, _, e, _⟩
    · simp at e; exact ⟨_, _, _, by rw [e]⟩
    · simp at e; exact ⟨_, _, _, by rw [e]⟩
set_option maxRecDepth 100000 in
theorem prf_of {a : Option Addr} {len cap : Nat} {d : DataW H} {p : List MemPlace} (h : DataW.Trod enc Tryd.prog W 0 (fun _ => true) true 28 (.agg #[.slice a len cap]) d p) :
    ∃ q m, IsPrf W a len cap q m := by
  obtain ⟨fuel, hf⟩ := h
  obtain ⟨y0, k, _, _, g0⟩ := trod_struct1 Tryd.underlying28 hf
  simp [Value.cells, parts_cells] at g0
  exact parts_of g0
end

end Go.Proofs.YtkhacijkfjcdeaaDoor
