/-
  What an opening (api.Opening) that came in gives the walk, and a list of places.
-/
import Derived.Test.YtoogpkcpheannacChecked
import Derived.Test.YtoogpkcpheannacOpn
import Derived.OpenShut
import Derived.Deep.Strs
import Derived.Deep.SlicePairs
import Derived.Deep.Matrix
namespace Go.Proofs.Ytoogpkcpheannac
open Go.ChangeShapes Go.WideShapes Go.RowKit Go.Deep
set_option linter.unusedVariables false

theorem oarr_cells : Try.prog.cellsOf 46 = 2 := by kernel_rfl
theorem ou64_cells : Try.prog.cellsOf 22 = 1 := by kernel_rfl
theorem oarl_cells : Try.prog.cellsOf 43 = 2 := by kernel_rfl
theorem orow_cells : Try.prog.cellsOf 23 = 1 := by kernel_rfl
theorem olook_cells : Try.prog.cellsOf 41 = 2 := by kernel_rfl
theorem opairs_cells : Try.prog.cellsOf 38 = 1 := by kernel_rfl
theorem opaths_cells : Try.prog.cellsOf 39 = 1 := by kernel_rfl
theorem olooks_cells : Try.prog.cellsOf 25 = 1 := by kernel_rfl
theorem oopn_cells : Try.prog.cellsOf 27 = 3 := by kernel_rfl
theorem oadd_two (a : Addr) (i j : Nat) : (a.add (i * 2)).add j = a.add (2 * i + j) := by rw [add_add, Nat.mul_comm]
theorem ou64_wf {a : Int} (h : (Lit.int .u64 a).wf = true) : 0 ≤ a ∧ a ≤ 18446744073709551615 := by
  simp [Lit.wf, IntKind.min, IntKind.max, IntKind.signed, IntKind.bits] at h
  omega
theorem onums_wf {zs : List Int} (h : ∀ n ∈ zs, (Lit.int .u64 n).wf = true) : Nums (fun j => zs.getD j 0) := fun j => by
  dsimp only
  by_cases hj : j < zs.length
  · have : zs.getD j 0 = zs[j] := by simp [List.getD, hj]
    rw [this]
    exact ou64_wf (h _ (List.getElem_mem hj))
  · have : zs.getD j 0 = 0 := by simp [List.getD, hj]
    rw [this]; omega
theorem ocell_at {w : World} {a : Addr} {u : Value} (h : w.cell? (a.add 0) = some u) : ∃ b off, a = ⟨b, off, none⟩ := by
  obtain ⟨b, off, spot⟩ := a
  have hspot : spot = none := by simpa [Addr.add] using World.cell?_spot h
  subst hspot
  exact ⟨b, off, rfl⟩
/-- An opening that came in. -/
structure IsOpn (w : World) (ar : Option Addr) (nr cr : Nat) (v : Int) (al : Option Addr) (N cl : Nat) (R : Nat → Int) (o : OQ) (m : OM) : Prop where
  rrow : PRow w ar nr R
  rnum : Nums R
  rcap : nr ≤ cr ∧ cr ≤ maxLen
  vr : 0 ≤ v ∧ v ≤ 18446744073709551615
  lenE : o.n = N
  capE : N ≤ cl ∧ cl ≤ maxLen
  row : OpRow w al o m
  nums : o.nums
  caps : ∀ i, i < o.n → ∀ k e, o.tl i k e ≤ m.C i k e
section
variable {H : Type} {enc : TypeId × Value → H} {W : World} {base : Nat} {held : Bool}
theorem onums_of {fuel : Nat} {cs : List Value} {x : DataW H × List MemPlace} (h : DataW.trod enc Try.prog W base (fun _ => true) held fuel 23 cs = some x) :
    ∃ a len cap f, cs = [.slice a len cap] ∧ PRow W a len f ∧ Nums f ∧ len ≤ cap ∧ cap ≤ maxLen := by
  rcases open_ints Try.underlying23 Try.underlying22 (by kernel_rfl) h with ⟨hcs, _⟩ | ⟨a, len, cap, zs, hcs, _, hl, hm, hz, _, hc, hw⟩
  · exact ⟨none, 0, 0, fun _ => 0, hcs, fun h0 => absurd h0 (by omega), fun _ => by dsimp only; omega, Nat.le_refl _, Nat.zero_le _⟩
  · simp only [if_true] at hz
    refine ⟨some a, len, cap, fun j => zs.getD j 0, hcs, fun h0 => ?_, onums_wf hw, hl, hm⟩
    obtain ⟨b, off, rfl⟩ := ocell_at (hc 0 (by omega))
    exact ⟨b, off, rfl, fun j hj => by rw [← add_plain]; exact hc j (by omega)⟩
set_option maxRecDepth 100000 in
theorem opairs_of {fuel : Nat} {cs : List Value} {x : DataW H × List MemPlace} (h : DataW.trod enc Try.prog W base (fun _ => true) held fuel 38 cs = some x) :
    ∃ a len cap F, cs = [.slice a len cap] ∧ QRow W a len F ∧ (∀ k e, 0 ≤ F k e ∧ F k e ≤ 18446744073709551615) ∧ len ≤ cap ∧ cap ≤ maxLen := by
  rcases open_slice Try.underlying38 h with ⟨hcs, _⟩ | ⟨a', len, cap, mm, n, D, Pl, hcs, _, hl, hm, hmm, _, hx⟩
  · exact ⟨none, 0, 0, fun _ _ => 0, hcs, fun h0 => absurd h0 (by omega), fun _ _ => by dsimp only; omega, Nat.le_refl _, Nat.zero_le _⟩
  · simp only [if_true] at hmm
    have each : ∀ i, i < len → ∃ y : Int × Int, W.cell? (a'.add (2 * i)) = some (.int .u64 y.1) ∧ W.cell? (a'.add (2 * i + 1)) = some (.int .u64 y.2) ∧ (0 ≤ y.1 ∧ y.1 ≤ 18446744073709551615) ∧ (0 ≤ y.2 ∧ y.2 ≤ 18446744073709551615) := by
      intro i hi
      obtain ⟨cs', h1, h2⟩ := hx i (by omega)
      rw [oarr_cells] at h1
      obtain ⟨_, hlen, hcell⟩ := World.cells?_some h1
      obtain ⟨xs, k, _, _, _, hxl, ht⟩ := DataW.trod_array Try.underlying46 h2
      match cs', hlen with
      | [v0, v1], _ =>
        have g0 := ht 0 (by omega)
        have g1 := ht 1 (by omega)
        match xs, hxl with
        | [y0, y1], _ =>
          simp [ou64_cells] at g0 g1
          obtain ⟨p, e1, _, r1⟩ := DataW.trod_int Try.underlying22 g0
          obtain ⟨q, e2, _, r2⟩ := DataW.trod_int Try.underlying22 g1
          simp at e1 e2
          subst e1
          subst e2
          have c0 := hcell 0 (by omega)
          have c1 := hcell 1 (by omega)
          rw [oadd_two] at c0 c1
          exact ⟨(p, q), by simpa using c0, by simpa using c1, ou64_wf r1, ou64_wf r2⟩
    haveI : Inhabited (Int × Int) := ⟨(0, 0)⟩
    obtain ⟨f, hf⟩ := choose_lt each
    refine ⟨some a', len, cap, fun k e => if k < len then (if e = 0 then (f k).1 else (f k).2) else 0, hcs, fun h0 => ?_, fun k e => ?_, hl, hm⟩
    · obtain ⟨b, off, rfl⟩ := ocell_at (by simpa using (hf 0 h0).1)
      refine ⟨b, off, rfl, fun k hk => ?_⟩
      obtain ⟨c0, c1, _, _⟩ := hf k hk
      rw [Addr.add_lit] at c0 c1
      dsimp only
      rw [if_pos hk, if_pos hk, if_pos rfl, if_neg (by omega)]
      exact ⟨c0, c1⟩
    · dsimp only
      by_cases hk : k < len
      · rw [if_pos hk]
        obtain ⟨_, _, c2, c3⟩ := hf k hk
        split
        · exact c2
        · exact c3
      · rw [if_neg hk]; omega
set_option maxRecDepth 100000 in
theorem opaths_of {fuel : Nat} {cs : List Value} {x : DataW H × List MemPlace} (h : DataW.trod enc Try.prog W base (fun _ => true) held fuel 39 cs = some x) :
    ∃ a len cap A L C F, cs = [.slice a len cap] ∧ TRow W a len A L C F ∧ (∀ k e, Nums (F k e) ∧ L k e ≤ C k e) ∧ len ≤ cap ∧ cap ≤ maxLen := by
  rcases open_slice Try.underlying39 h with ⟨hcs, _⟩ | ⟨a', len, cap, mm, n, D, Pl, hcs, _, hl, hm, hmm, _, hx⟩
  · exact ⟨none, 0, 0, fun _ _ => none, fun _ _ => 0, fun _ _ => 0, fun _ _ _ => 0, hcs, fun h0 => absurd h0 (by omega), fun _ _ => ⟨fun _ => by dsimp only; omega, Nat.le_refl _⟩, Nat.le_refl _, Nat.zero_le _⟩
  · simp only [if_true] at hmm
    have each : ∀ i, i < len → ∃ y : (Option Addr × Nat × Nat × (Nat → Int)) × (Option Addr × Nat × Nat × (Nat → Int)), W.cell? (a'.add (2 * i)) = some (.slice y.1.1 y.1.2.1 y.1.2.2.1) ∧ W.cell? (a'.add (2 * i + 1)) = some (.slice y.2.1 y.2.2.1 y.2.2.2.1) ∧ (PRow W y.1.1 y.1.2.1 y.1.2.2.2 ∧ Nums y.1.2.2.2 ∧ y.1.2.1 ≤ y.1.2.2.1) ∧ (PRow W y.2.1 y.2.2.1 y.2.2.2.2 ∧ Nums y.2.2.2.2 ∧ y.2.2.1 ≤ y.2.2.2.1) := by
      intro i hi
      obtain ⟨cs', h1, h2⟩ := hx i (by omega)
      rw [oarl_cells] at h1
      obtain ⟨_, hlen, hcell⟩ := World.cells?_some h1
      obtain ⟨xs, k, _, _, _, hxl, ht⟩ := DataW.trod_array Try.underlying43 h2
      match cs', hlen with
      | [v0, v1], _ =>
        have g0 := ht 0 (by omega)
        have g1 := ht 1 (by omega)
        match xs, hxl with
        | [y0, y1], _ =>
          simp [orow_cells] at g0 g1
          obtain ⟨p0, p1, p2, p3, e1, r1, r2, r3, _⟩ := onums_of g0
          obtain ⟨q0, q1, q2, q3, e2, s1, s2, s3, _⟩ := onums_of g1
          simp at e1 e2
          subst e1
          subst e2
          have c0 := hcell 0 (by omega)
          have c1 := hcell 1 (by omega)
          rw [oadd_two] at c0 c1
          exact ⟨((p0, p1, p2, p3), (q0, q1, q2, q3)), by simpa using c0, by simpa using c1, ⟨r1, r2, r3⟩, ⟨s1, s2, s3⟩⟩
    haveI : Inhabited ((Option Addr × Nat × Nat × (Nat → Int)) × (Option Addr × Nat × Nat × (Nat → Int))) := ⟨((none, 0, 0, fun _ => 0), (none, 0, 0, fun _ => 0))⟩
    obtain ⟨f, hf⟩ := choose_lt each
    obtain ⟨G, hG⟩ : ∃ G : Nat → Nat → Option Addr × Nat × Nat × (Nat → Int), G = fun k e => if k < len then (if e = 0 then (f k).1 else (f k).2) else (none, 0, 0, fun _ => 0) := ⟨_, rfl⟩
    have hG0 : ∀ k, k < len → G k 0 = (f k).1 ∧ G k 1 = (f k).2 := fun k hk => by
      rw [hG]; dsimp only
      rw [if_pos hk, if_pos hk, if_pos rfl, if_neg (by omega)]
      exact ⟨rfl, rfl⟩
    refine ⟨some a', len, cap, fun k e => (G k e).1, fun k e => (G k e).2.1, fun k e => (G k e).2.2.1, fun k e => (G k e).2.2.2, hcs, fun h0 => ?_, fun k e => ?_, hl, hm⟩
    · obtain ⟨b, off, rfl⟩ := ocell_at (by simpa using (hf 0 h0).1)
      refine ⟨b, off, rfl, fun k hk => ?_⟩
      obtain ⟨c0, c1, c2, c3⟩ := hf k hk
      rw [Addr.add_lit] at c0 c1
      dsimp only
      rw [(hG0 k hk).1, (hG0 k hk).2]
      exact ⟨c0, c1, c2.1, c3.1⟩
    · dsimp only
      rw [hG]
      dsimp only
      by_cases hk : k < len
      · rw [if_pos hk]
        obtain ⟨_, _, c2, c3⟩ := hf k hk
        split
        · exact ⟨c2.2.1, c2.2.2⟩
        · exact ⟨c3.2.1, c3.2.2⟩
      · rw [if_neg hk]
        exact ⟨fun _ => by dsimp only; omega, Nat.le_refl _⟩
/-- A look as it lies in memory. -/
structure LkV where
  pa : Option Addr
  np : Nat
  pc : Nat
  ta : Option Addr
  nt : Nat
  tc : Nat
  P : Nat → Nat → Int
  A : Nat → Nat → Option Addr
  L : Nat → Nat → Nat
  C : Nat → Nat → Nat
  T : Nat → Nat → Nat → Int
def LkV.none : LkV := ⟨Option.none, 0, 0, Option.none, 0, 0, fun _ _ => 0, fun _ _ => Option.none, fun _ _ => 0, fun _ _ => 0, fun _ _ _ => 0⟩
/-- What holds of one that came in. -/
def LkV.ok (y : LkV) : Prop := (∀ k e, 0 ≤ y.P k e ∧ y.P k e ≤ 18446744073709551615) ∧ ∀ k e, Nums (y.T k e) ∧ y.L k e ≤ y.C k e
theorem LkV.none_ok : LkV.none.ok := ⟨fun _ _ => by show (0 : Int) ≤ 0 ∧ (0 : Int) ≤ _; omega, fun _ _ => ⟨fun _ => by show (0 : Int) ≤ 0 ∧ (0 : Int) ≤ _; omega, Nat.le_refl _⟩⟩
set_option maxRecDepth 100000 in
theorem olooks_of {fuel : Nat} {cs : List Value} {x : DataW H × List MemPlace} (h : DataW.trod enc Try.prog W base (fun _ => true) held fuel 25 cs = some x) :
    ∃ a len cap o m, cs = [.slice a len cap] ∧ OpRow W a o m ∧ o.n = len ∧ o.nums ∧ (∀ i, i < o.n → ∀ k e, o.tl i k e ≤ m.C i k e) ∧ len ≤ cap ∧ cap ≤ maxLen := by
  have key : ∃ a len cap, ∃ G : Nat → LkV, cs = [.slice a len cap] ∧ (0 < len → ∃ b off, a = some ⟨b, off, none⟩ ∧ ∀ i, i < len → W.cell? ⟨b, off + 2 * i, none⟩ = some (.slice (G i).pa (G i).np (G i).pc) ∧ W.cell? ⟨b, off + 2 * i + 1, none⟩ = some (.slice (G i).ta (G i).nt (G i).tc) ∧ QRow W (G i).pa (G i).np (G i).P ∧ TRow W (G i).ta (G i).nt (G i).A (G i).L (G i).C (G i).T) ∧ (∀ i, (G i).ok) ∧ len ≤ cap ∧ cap ≤ maxLen := by
    rcases open_slice Try.underlying25 h with ⟨hcs, _⟩ | ⟨a', len, cap, mm, n, D, Pl, hcs, _, hl, hm, hmm, _, hx⟩
    · exact ⟨none, 0, 0, fun _ => LkV.none, hcs, fun h0 => absurd h0 (by omega), fun _ => LkV.none_ok, Nat.le_refl _, Nat.zero_le _⟩
    · simp only [if_true] at hmm
      have each : ∀ i, i < len → ∃ y : LkV, W.cell? (a'.add (2 * i)) = some (.slice y.pa y.np y.pc) ∧ W.cell? (a'.add (2 * i + 1)) = some (.slice y.ta y.nt y.tc) ∧ QRow W y.pa y.np y.P ∧ TRow W y.ta y.nt y.A y.L y.C y.T ∧ y.ok := by
        intro i hi
        obtain ⟨cs', h1, h2⟩ := hx i (by omega)
        rw [olook_cells] at h1
        obtain ⟨_, hlen, hcell⟩ := World.cells?_some h1
        obtain ⟨y0, y1, k, _, _, g0, g1⟩ := trod_struct2 Try.underlying41 h2
        match cs', hlen with
        | [v0, v1], _ =>
          simp [opairs_cells, opaths_cells] at g0 g1
          obtain ⟨pa, np, pc, P, e1, r1, r2, _⟩ := opairs_of g0
          obtain ⟨ta, nt, tc, A, L, C, T, e2, s1, s2, _⟩ := opaths_of g1
          simp at e1 e2
          subst e1
          subst e2
          have c0 := hcell 0 (by omega)
          have c1 := hcell 1 (by omega)
          rw [oadd_two] at c0 c1
          exact ⟨⟨pa, np, pc, ta, nt, tc, P, A, L, C, T⟩, by simpa using c0, by simpa using c1, r1, s1, r2, s2⟩
      haveI : Inhabited LkV := ⟨LkV.none⟩
      obtain ⟨f, hf⟩ := choose_lt each
      refine ⟨some a', len, cap, fun i => if i < len then f i else LkV.none, hcs, fun h0 => ?_, fun i => ?_, hl, hm⟩
      · obtain ⟨b, off, rfl⟩ := ocell_at (by simpa using (hf 0 h0).1)
        refine ⟨b, off, rfl, fun i hi => ?_⟩
        obtain ⟨c0, c1, c2, c3, _⟩ := hf i hi
        rw [Addr.add_lit] at c0 c1
        dsimp only
        rw [if_pos hi]
        exact ⟨c0, c1, c2, c3⟩
      · dsimp only
        by_cases hi : i < len
        · rw [if_pos hi]; exact (hf i hi).2.2.2.2
        · rw [if_neg hi]; exact LkV.none_ok
  obtain ⟨a, len, cap, G, hcs, hrow, hok, hl, hm⟩ := key
  exact ⟨a, len, cap, ⟨len, fun i => (G i).np, fun i => (G i).nt, fun i => (G i).P, fun i => (G i).L, fun i => (G i).T⟩, ⟨fun i => (G i).pa, fun i => (G i).ta, fun i => (G i).pc, fun i => (G i).tc, fun i => (G i).A, fun i => (G i).C⟩, hcs, hrow, rfl, fun i k e => ⟨((hok i).1 k e).1, ((hok i).1 k e).2, ((hok i).2 k e).1⟩, fun i _ k e => ((hok i).2 k e).2, hl, hm⟩
set_option maxRecDepth 100000 in
theorem opn_val {v : Value} {d : DataW H} {p : List MemPlace} (hv : Value.okWide Try.prog W .any base 27 v) (h : DataW.Trod enc Try.prog W 0 (fun _ => true) true 27 v d p) :
    ∃ ar nr cr x al N cl, v = .agg #[.slice ar nr cr, .int .u64 x, .slice al N cl] ∧ ∃ R o m, IsOpn W ar nr cr x al N cl R o m := by
  obtain ⟨cs, rfl, hs⟩ := okWide_struct Try.underlying27 hv
  obtain ⟨fuel, hf⟩ := h
  obtain ⟨y0, y1, y2, k, _, _, g0, g1, g2⟩ := trod_struct3 Try.underlying27 hf
  rw [oopn_cells] at hs
  obtain ⟨l⟩ := cs
  match l, hs with
  | [v0, v1, v2], _ =>
    simp [Value.cells, orow_cells, ou64_cells, olooks_cells] at g0 g1 g2
    obtain ⟨ar, nr, cr, R, e0, r1, r2, r3, r4⟩ := onums_of g0
    obtain ⟨x, e1, _, x1⟩ := DataW.trod_int Try.underlying22 g1
    obtain ⟨al, N, cl, o, m, e2, s1, s2, s3, s4, s5, s6⟩ := olooks_of g2
    simp at e0 e1 e2
    subst e0
    subst e1
    subst e2
    exact ⟨ar, nr, cr, x, al, N, cl, rfl, R, o, m, ⟨r1, r2, ⟨r3, r4⟩, ou64_wf x1, s2, ⟨s5, s6⟩, s1, s3, s4⟩⟩
end

end Go.Proofs.Ytoogpkcpheannac
