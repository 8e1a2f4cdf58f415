/-
  Several texts in one: OpnOpen, CircF, Tiny, Gkl1, Equal, TopT, Opt2; each opens with what it holds.
-/
import Derived.Test.YtmjpcmeinlkfbaaGreatDoorChecked
import Derived.Test.YtmjpcmeinlkfbaaGreatDoorMOpA
import Derived.OpenShut
import Derived.Deep.Strs
import Derived.Deep.SlicePairs
import Derived.Deep.Matrix
import Derived.Test.YtmjpcmeinlkfbaaGreatDoorCirc
import Derived.Test.YtmjpcmeinlkfbaaGreatDoorCircC
import Derived.Test.YtmjpcmeinlkfbaaGreatDoorMGkB
import Derived.Test.YtmjpcmeinlkfbaaGreatDoorMRef
import Derived.Test.YtmjpcmeinlkfbaaGreatDoorKeep
import Derived.Deep.RegionHeld3
import Derived.Test.YtmjpcmeinlkfbaaGreatDoorOwn
import Derived.Deep.RegionWith
import Derived.Deep.LoopGhost
import Derived.Deep.Light
import Derived.Deep.DrawnRows
import Derived.Test.YtmjpcmeinlkfbaaGreatDoorMFiat
import Derived.Test.YtmjpcmeinlkfbaaGreatDoorMOpB
/-
  What an opening (api.Opening) that came in gives the walk, and a list of places.
-/
namespace Go.Proofs.YtmjpcmeinlkfbaaGreatDoor
open Go.ChangeShapes Go.WideShapes Go.RowKit Go.Deep
set_option linter.unusedVariables false

theorem oarr_cells : Tryz.prog.cellsOf 52 = 2 := by kernel_rfl
theorem ou64_cells : Tryz.prog.cellsOf 31 = 1 := by kernel_rfl
theorem oarl_cells : Tryz.prog.cellsOf 53 = 2 := by kernel_rfl
theorem orow_cells : Tryz.prog.cellsOf 22 = 1 := by kernel_rfl
theorem olook_cells : Tryz.prog.cellsOf 50 = 2 := by kernel_rfl
theorem opairs_cells : Tryz.prog.cellsOf 47 = 1 := by kernel_rfl
theorem opaths_cells : Tryz.prog.cellsOf 48 = 1 := by kernel_rfl
theorem olooks_cells : Tryz.prog.cellsOf 40 = 1 := by kernel_rfl
theorem oopn_cells : Tryz.prog.cellsOf 42 = 3 := by kernel_rfl
theorem oadd_two (a : Addr) (i j : Nat) : (a.add (i * 2)).add j = a.add (2 * i + j) := by rw [add_add, Nat.mul_comm]
theorem ou64_wf {a : Int} (h : (Lit.int .u64 a).wf = true) : 0 ≤ a ∧ a ≤ 18446744073709551615 := by
  simp [Lit.wf, IntKind.min, IntKind.max, IntKind.signed, IntKind.bits] at h
  omega
theorem onums_wf {zs : List Int} (h : ∀ n ∈ zs, (Lit.int .u64 n).wf = true) : Nums (fun j => zs.getD j 0) := fun j => by
  dsimp only
  by_cases hj : j < zs.length
  · have : zs.getD j 0 = zs[j] := by simp [List.getD, hj]
    rw [this]
    exact ou64_wf (h _ (List.getElem_mem hj))
  · have : zs.getD j 0 = 0 := by simp [List.getD, hj]
    rw [this]; omega
theorem ocell_at {w : World} {a : Addr} {u : Value} (h : w.cell? (a.add 0) = some u) : ∃ b off, a = ⟨b, off, none⟩ := by
  obtain ⟨b, off, spot⟩ := a
  have hspot : spot = none := by simpa [Addr.add] using World.cell?_spot h
  subst hspot
  exact ⟨b, off, rfl⟩
/-- An opening that came in. -/
structure IsOpn (w : World) (ar : Option Addr) (nr cr : Nat) (v : Int) (al : Option Addr) (N cl : Nat) (R : Nat → Int) (o : OQ) (m : OM) : Prop where
  rrow : PRow w ar nr R
  rnum : Nums R
  rcap : nr ≤ cr ∧ cr ≤ maxLen
  vr : 0 ≤ v ∧ v ≤ 18446744073709551615
  lenE : o.n = N
  capE : N ≤ cl ∧ cl ≤ maxLen
  row : OpRow w al o m
  nums : o.nums
  caps : ∀ i, i < o.n → ∀ k e, o.tl i k e ≤ m.C i k e
section
variable {H : Type} {enc : TypeId × Value → H} {W : World} {base : Nat} {held : Bool}
theorem onums_of {fuel : Nat} {cs : List Value} {x : DataW H × List MemPlace} (h : DataW.trod enc Tryz.prog W base (fun _ => true) held fuel 22 cs = some x) :
    ∃ a len cap f, cs = [.slice a len cap] ∧ PRow W a len f ∧ Nums f ∧ len ≤ cap ∧ cap ≤ maxLen := by
  rcases open_ints Tryz.underlying22 Tryz.underlying31 (by kernel_rfl) h with ⟨hcs, _⟩ | ⟨a, len, cap, zs, hcs, _, hl, hm, hz, _, hc, hw⟩
  · exact ⟨none, 0, 0, fun _ => 0, hcs, fun h0 => absurd h0 (by omega), fun _ => by dsimp only; omega, Nat.le_refl _, Nat.zero_le _⟩
  · simp only [if_true] at hz
    refine ⟨some a, len, cap, fun j => zs.getD j 0, hcs, fun h0 => ?_, onums_wf hw, hl, hm⟩
    obtain ⟨b, off, rfl⟩ := ocell_at (hc 0 (by omega))
    exact ⟨b, off, rfl, fun j hj => by rw [← add_plain]; exact hc j (by omega)⟩
set_option maxRecDepth 100000 in
theorem opairs_of {fuel : Nat} {cs : List Value} {x : DataW H × List MemPlace} (h : DataW.trod enc Tryz.prog W base (fun _ => true) held fuel 47 cs = some x) :
    ∃ a len cap F, cs = [.slice a len cap] ∧ QRow W a len F ∧ (∀ k e, 0 ≤ F k e ∧ F k e ≤ 18446744073709551615) ∧ len ≤ cap ∧ cap ≤ maxLen := by
  rcases open_slice Tryz.underlying47 h with ⟨hcs, _⟩ | ⟨a', len, cap, mm, n, D, Pl, hcs, _, hl, hm, hmm, _, hx⟩
  · exact ⟨none, 0, 0, fun _ _ => 0, hcs, fun h0 => absurd h0 (by omega), fun _ _ => by dsimp only; omega, Nat.le_refl _, Nat.zero_le _⟩
  · simp only [if_true] at hmm
    have each : ∀ i, i < len → ∃ y : Int × Int, W.cell? (a'.add (2 * i)) = some (.int .u64 y.1) ∧ W.cell? (a'.add (2 * i + 1)) = some (.int .u64 y.2) ∧ (0 ≤ y.1 ∧ y.1 ≤ 18446744073709551615) ∧ (0 ≤ y.2 ∧ y.2 ≤ 18446744073709551615) := by
      intro i hi
      obtain ⟨cs', h1, h2⟩ := hx i (by omega)
      rw [oarr_cells] at h1
      obtain ⟨_, hlen, hcell⟩ := World.cells?_some h1
      obtain ⟨xs, k, _, _, _, hxl, ht⟩ := DataW.trod_array Tryz.underlying52 h2
      match cs', hlen with
      | [v0, v1], _ =>
        have g0 := ht 0 (by omega)
        have g1 := ht 1 (by omega)
        match xs, hxl with
        | [y0, y1], _ =>
          simp [ou64_cells] at g0 g1
          obtain ⟨p, e1, _, r1⟩ := DataW.trod_int Tryz.underlying31 g0
          obtain ⟨q, e2, _, r2⟩ := DataW.trod_int Tryz.underlying31 g1
          simp at e1 e2
          subst e1
          subst e2
          have c0 := hcell 0 (by omega)
          have c1 := hcell 1 (by omega)
          rw [oadd_two] at c0 c1
          exact ⟨(p, q), by simpa using c0, by simpa using c1, ou64_wf r1, ou64_wf r2⟩
    haveI : Inhabited (Int × Int) := ⟨(0, 0)⟩
    obtain ⟨f, hf⟩ := choose_lt each
    refine ⟨some a', len, cap, fun k e => if k < len then (if e = 0 then (f k).1 else (f k).2) else 0, hcs, fun h0 => ?_, fun k e => ?_, hl, hm⟩
    · obtain ⟨b, off, rfl⟩ := ocell_at (by simpa using (hf 0 h0).1)
      refine ⟨b, off, rfl, fun k hk => ?_⟩
      obtain ⟨c0, c1, _, _⟩ := hf k hk
      rw [Addr.add_lit] at c0 c1
      dsimp only
      rw [if_pos hk, if_pos hk, if_pos rfl, if_neg (by omega)]
      exact ⟨c0, c1⟩
    · dsimp only
      by_cases hk : k < len
      · rw [if_pos hk]
        obtain ⟨_, _, c2, c3⟩ := hf k hk
        split
        · exact c2
        · exact c3
      · rw [if_neg hk]; omega
set_option maxRecDepth 100000 in
theorem opaths_of {fuel : Nat} {cs : List Value} {x : DataW H × List MemPlace} (h : DataW.trod enc Tryz.prog W base (fun _ => true) held fuel 48 cs = some x) :
    ∃ a len cap A L C F, cs = [.slice a len cap] ∧ TRow W a len A L C F ∧ (∀ k e, Nums (F k e) ∧ L k e ≤ C k e) ∧ len ≤ cap ∧ cap ≤ maxLen := by
  rcases open_slice Tryz.underlying48 h with ⟨hcs, _⟩ | ⟨a', len, cap, mm, n, D, Pl, hcs, _, hl, hm, hmm, _, hx⟩
  · exact ⟨none, 0, 0, fun _ _ => none, fun _ _ => 0, fun _ _ => 0, fun _ _ _ => 0, hcs, fun h0 => absurd h0 (by omega), fun _ _ => ⟨fun _ => by dsimp only; omega, Nat.le_refl _⟩, Nat.le_refl _, Nat.zero_le _⟩
  · simp only [if_true] at hmm
    have each : ∀ i, i < len → ∃ y : (Option Addr × Nat × Nat × (Nat → Int)) × (Option Addr × Nat × Nat × (Nat → Int)), W.cell? (a'.add (2 * i)) = some (.slice y.1.1 y.1.2.1 y.1.2.2.1) ∧ W.cell? (a'.add (2 * i + 1)) = some (.slice y.2.1 y.2.2.1 y.2.2.2.1) ∧ (PRow W y.1.1 y.1.2.1 y.1.2.2.2 ∧ Nums y.1.2.2.2 ∧ y.1.2.1 ≤ y.1.2.2.1) ∧ (PRow W y.2.1 y.2.2.1 y.2.2.2.2 ∧ Nums y.2.2.2.2 ∧ y.2.2.1 ≤ y.2.2.2.1) := by
      intro i hi
      obtain ⟨cs', h1, h2⟩ := hx i (by omega)
      rw [oarl_cells] at h1
      obtain ⟨_, hlen, hcell⟩ := World.cells?_some h1
      obtain ⟨xs, k, _, _, _, hxl, ht⟩ := DataW.trod_array Tryz.underlying53 h2
      match cs', hlen with
      | [v0, v1], _ =>
        have g0 := ht 0 (by omega)
        have g1 := ht 1 (by omega)
        match xs, hxl with
        | [y0, y1], _ =>
          simp [orow_cells] at g0 g1
          obtain ⟨p0, p1, p2, p3, e1, r1, r2, r3, _⟩ := onums_of g0
          obtain ⟨q0, q1, q2, q3, e2, s1, s2, s3, _⟩ := onums_of g1
          simp at e1 e2
          subst e1
          subst e2
          have c0 := hcell 0 (by omega)
          have c1 := hcell 1 (by omega)
          rw [oadd_two] at c0 c1
          exact ⟨((p0, p1, p2, p3), (q0, q1, q2, q3)), by simpa using c0, by simpa using c1, ⟨r1, r2, r3⟩, ⟨s1, s2, s3⟩⟩
    haveI : Inhabited ((Option Addr × Nat × Nat × (Nat → Int)) × (Option Addr × Nat × Nat × (Nat → Int))) := ⟨((none, 0, 0, fun _ => 0), (none, 0, 0, fun _ => 0))⟩
    obtain ⟨f, hf⟩ := choose_lt each
    obtain ⟨G, hG⟩ : ∃ G : Nat → Nat → Option Addr × Nat × Nat × (Nat → Int), G = fun k e => if k < len then (if e = 0 then (f k).1 else (f k).2) else (none, 0, 0, fun _ => 0) := ⟨_, rfl⟩
    have hG0 : ∀ k, k < len → G k 0 = (f k).1 ∧ G k 1 = (f k).2 := fun k hk => by
      rw [hG]; dsimp only
      rw [if_pos hk, if_pos hk, if_pos rfl, if_neg (by omega)]
      exact ⟨rfl, rfl⟩
    refine ⟨some a', len, cap, fun k e => (G k e).1, fun k e => (G k e).2.1, fun k e => (G k e).2.2.1, fun k e => (G k e).2.2.2, hcs, fun h0 => ?_, fun k e => ?_, hl, hm⟩
    · obtain ⟨b, off, rfl⟩ := ocell_at (by simpa using (hf 0 h0).1)
      refine ⟨b, off, rfl, fun k hk => ?_⟩
      obtain ⟨c0, c1, c2, c3⟩ := hf k hk
      rw [Addr.add_lit] at c0 c1
      dsimp only
      rw [(hG0 k hk).1, (hG0 k hk).2]
      exact ⟨c0, c1, c2.1, c3.1⟩
    · dsimp only
      rw [hG]
      dsimp only
      by_cases hk : k < len
      · rw [if_pos hk]
        obtain ⟨_, _, c2, c3⟩ := hf k hk
        split
        · exact ⟨c2.2.1, c2.2.2⟩
        · exact ⟨c3.2.1, c3.2.2⟩
      · rw [if_neg hk]
        exact ⟨fun _ => by dsimp only; omega, Nat.le_refl _⟩
/-- A look as it lies in memory. -/
structure LkV where
  pa : Option Addr
  np : Nat
  pc : Nat
  ta : Option Addr
  nt : Nat
  tc : Nat
  P : Nat → Nat → Int
  A : Nat → Nat → Option Addr
  L : Nat → Nat → Nat
  C : Nat → Nat → Nat
  T : Nat → Nat → Nat → Int
def LkV.none : LkV := ⟨Option.none, 0, 0, Option.none, 0, 0, fun _ _ => 0, fun _ _ => Option.none, fun _ _ => 0, fun _ _ => 0, fun _ _ _ => 0⟩
/-- What holds of one that came in. -/
def LkV.ok (y : LkV) : Prop := (∀ k e, 0 ≤ y.P k e ∧ y.P k e ≤ 18446744073709551615) ∧ ∀ k e, Nums (y.T k e) ∧ y.L k e ≤ y.C k e
theorem LkV.none_ok : LkV.none.ok := ⟨fun _ _ => by show (0 : Int) ≤ 0 ∧ (0 : Int) ≤ _; omega, fun _ _ => ⟨fun _ => by show (0 : Int) ≤ 0 ∧ (0 : Int) ≤ _; omega, Nat.le_refl _⟩⟩
set_option maxRecDepth 100000 in
theorem olooks_of {fuel : Nat} {cs : List Value} {x : DataW H × List MemPlace} (h : DataW.trod enc Tryz.prog W base (fun _ => true) held fuel 40 cs = some x) :
    ∃ a len cap o m, cs = [.slice a len cap] ∧ OpRow W a o m ∧ o.n = len ∧ o.nums ∧ (∀ i, i < o.n → ∀ k e, o.tl i k e ≤ m.C i k e) ∧ len ≤ cap ∧ cap ≤ maxLen := by
  have key : ∃ a len cap, ∃ G : Nat → LkV, cs = [.slice a len cap] ∧ (0 < len → ∃ b off, a = some ⟨b, off, none⟩ ∧ ∀ i, i < len → W.cell? ⟨b, off + 2 * i, none⟩ = some (.slice (G i).pa (G i).np (G i).pc) ∧ W.cell? ⟨b, off + 2 * i + 1, none⟩ = some (.slice (G i).ta (G i).nt (G i).tc) ∧ QRow W (G i).pa (G i).np (G i).P ∧ TRow W (G i).ta (G i).nt (G i).A (G i).L (G i).C (G i).T) ∧ (∀ i, (G i).ok) ∧ len ≤ cap ∧ cap ≤ maxLen := by
    rcases open_slice Tryz.underlying40 h with ⟨hcs, _⟩ | ⟨a', len, cap, mm, n, D, Pl, hcs, _, hl, hm, hmm, _, hx⟩
    · exact ⟨none, 0, 0, fun _ => LkV.none, hcs, fun h0 => absurd h0 (by omega), fun _ => LkV.none_ok, Nat.le_refl _, Nat.zero_le _⟩
    · simp only [if_true] at hmm
      have each : ∀ i, i < len → ∃ y : LkV, W.cell? (a'.add (2 * i)) = some (.slice y.pa y.np y.pc) ∧ W.cell? (a'.add (2 * i + 1)) = some (.slice y.ta y.nt y.tc) ∧ QRow W y.pa y.np y.P ∧ TRow W y.ta y.nt y.A y.L y.C y.T ∧ y.ok := by
        intro i hi
        obtain ⟨cs', h1, h2⟩ := hx i (by omega)
        rw [olook_cells] at h1
        obtain ⟨_, hlen, hcell⟩ := World.cells?_some h1
        obtain ⟨y0, y1, k, _, _, g0, g1⟩ := trod_struct2 Tryz.underlying50 h2
        match cs', hlen with
        | [v0, v1], _ =>
          simp [opairs_cells, opaths_cells] at g0 g1
          obtain ⟨pa, np, pc, P, e1, r1, r2, _⟩ := opairs_of g0
          obtain ⟨ta, nt, tc, A, L, C, T, e2, s1, s2, _⟩ := opaths_of g1
          simp at e1 e2
          subst e1
          subst e2
          have c0 := hcell 0 (by omega)
          have c1 := hcell 1 (by omega)
          rw [oadd_two] at c0 c1
          exact ⟨⟨pa, np, pc, ta, nt, tc, P, A, L, C, T⟩, by simpa using c0, by simpa using c1, r1, s1, r2, s2⟩
      haveI : Inhabited LkV := ⟨LkV.none⟩
      obtain ⟨f, hf⟩ := choose_lt each
      refine ⟨some a', len, cap, fun i => if i < len then f i else LkV.none, hcs, fun h0 => ?_, fun i => ?_, hl, hm⟩
      · obtain ⟨b, off, rfl⟩ := ocell_at (by simpa using (hf 0 h0).1)
        refine ⟨b, off, rfl, fun i hi => ?_⟩
        obtain ⟨c0, c1, c2, c3, _⟩ := hf i hi
        rw [Addr.add_lit] at c0 c1
        dsimp only
        rw [if_pos hi]
        exact ⟨c0, c1, c2, c3⟩
      · dsimp only
        by_cases hi : i < len
        · rw [if_pos hi]; exact (hf i hi).2.2.2.2
        · rw [if_neg hi]; exact LkV.none_ok
  obtain ⟨a, len, cap, G, hcs, hrow, hok, hl, hm⟩ := key
  exact ⟨a, len, cap, ⟨len, fun i => (G i).np, fun i => (G i).nt, fun i => (G i).P, fun i => (G i).L, fun i => (G i).T⟩, ⟨fun i => (G i).pa, fun i => (G i).ta, fun i => (G i).pc, fun i => (G i).tc, fun i => (G i).A, fun i => (G i).C⟩, hcs, hrow, rfl, fun i k e => ⟨((hok i).1 k e).1, ((hok i).1 k e).2, ((hok i).2 k e).1⟩, fun i _ k e => ((hok i).2 k e).2, hl, hm⟩
set_option maxRecDepth 100000 in
theorem opn_val {v : Value} {d : DataW H} {p : List MemPlace} (hv : Value.okWide Tryz.prog W .any base 42 v) (h : DataW.Trod enc Tryz.prog W 0 (fun _ => true) true 42 v d p) :
    ∃ ar nr cr x al N cl, v = .agg #[.slice ar nr cr, .int .u64 x, .slice al N cl] ∧ ∃ R o m, IsOpn W ar nr cr x al N cl R o m := by
  obtain ⟨cs, rfl, hs⟩ := okWide_struct Tryz.underlying42 hv
  obtain ⟨fuel, hf⟩ := h
  obtain ⟨y0, y1, y2, k, _, _, g0, g1, g2⟩ := trod_struct3 Tryz.underlying42 hf
  rw [oopn_cells] at hs
  obtain ⟨l⟩ := cs
  match l, hs with
  | [v0, v1, v2], _ =>
    simp [Value.cells, orow_cells, ou64_cells, olooks_cells] at g0 g1 g2
    obtain ⟨ar, nr, cr, R, e0, r1, r2, r3, r4⟩ := onums_of g0
    obtain ⟨x, e1, _, x1⟩ := DataW.trod_int Tryz.underlying31 g1
    obtain ⟨al, N, cl, o, m, e2, s1, s2, s3, s4, s5, s6⟩ := olooks_of g2
    simp at e0 e1 e2
    subst e0
    subst e1
    subst e2
    exact ⟨ar, nr, cr, x, al, N, cl, rfl, R, o, m, ⟨r1, r2, ⟨r3, r4⟩, ou64_wf x1, s2, ⟨s5, s6⟩, s1, s3, s4⟩⟩
end

end Go.Proofs.YtmjpcmeinlkfbaaGreatDoor

/-
  Plain: of a right circuit all numbers are small; the law's own tiny circuit; no program in it.
-/
namespace Go.Proofs.YtmjpcmeinlkfbaaGreatDoor
set_option linter.unusedVariables false

theorem pow_le16 {k : Int} (h : k ≤ 4) : 2 ^ k.toNat ≤ 16 := Nat.le_trans (Nat.pow_le_pow_right (by omega) (show k.toNat ≤ 4 by omega)) (Nat.le_refl 16)
theorem layersR_small : ∀ (ls : List LQ) (k : Int), k ≤ 4 → layersR k ls → ∀ l ∈ ls, (0 ≤ l.log ∧ l.log ≤ 4) ∧ l.gates.length ≤ 16 ∧ ∀ q ∈ l.gates, (0 ≤ q.a ∧ q.a < 100) ∧ 0 ≤ q.b ∧ q.b < 100
  | [], _, _, _ => by simp
  | x :: r, k, hk, h => by
    intro l hl
    obtain ⟨⟨hx1, hx2, hx3⟩, hr⟩ := h
    rcases List.mem_cons.1 hl with rfl | hl
    · refine ⟨hx1, by rw [hx2]; exact pow_le16 hx1.2, fun q hq => ?_⟩
      obtain ⟨⟨a0, a1⟩, b0, b1⟩ := hx3 q hq
      have := pow_le16 hk
      exact ⟨⟨a0, by omega⟩, b0, by omega⟩
    · exact layersR_small r x.log hx1.2 hr l hl
theorem right_small {c : CQ} (h : c.right) : ∀ l ∈ c.layers, (0 ≤ l.log ∧ l.log ≤ 4) ∧ l.gates.length ≤ 16 ∧ ∀ q ∈ l.gates, (0 ≤ q.a ∧ q.a < 100) ∧ 0 ≤ q.b ∧ q.b < 100 := layersR_small _ _ h.log.2 h.each
theorem right_fits {c : CQ} (h : c.right) : c.fits := by
  have hs := right_small h
  have hl := h.log
  intro x hx
  rcases List.mem_cons.1 hx with rfl | hx
  · show 0 ≤ c.log ∧ c.log < 100
    omega
  · obtain ⟨l, hl1, hl2⟩ := List.mem_flatMap.1 hx
    obtain ⟨h1, h2, h3⟩ := hs l hl1
    rcases List.mem_cons.1 hl2 with rfl | hl2
    · show 0 ≤ l.log ∧ l.log < 100
      omega
    · obtain ⟨q, hq, rfl⟩ := List.mem_map.1 hl2
      exact h3 q hq
def tinyQ : CQ := ⟨1, [⟨1, [⟨true, 0, 1⟩, ⟨false, 0, 1⟩]⟩]⟩
theorem tiny_right : tinyQ.right := by
  refine ⟨by decide, by decide, by decide, ⟨by decide, by decide, ?_⟩, trivial⟩
  intro q hq
  simp at hq
  rcases hq with rfl | rfl <;> exact ⟨by decide, by decide⟩

end Go.Proofs.YtmjpcmeinlkfbaaGreatDoor

/-
  A contract of the laws' own tiny circuit; what it makes is new.
-/
namespace Go.Proofs.YtmjpcmeinlkfbaaGreatDoor
open Go.RowKit
set_option linter.unusedVariables false
attribute [local go_sem ↓] Go.wp_at_zero Go.wp_at_succ

theorem results_cell1 {fn : Func} {p : Tmp} {ty : TypeId} (h : fn.results = #[.cell p ty]) (tmps : Array Value) (P : Program) (w : World) :
    (results fn tmps).run P w = ((asAddr (tmps.getD p undef)).run P w).andThen fun a w₁ => (loadVar ty a).run P w₁ := by
  simp only [results, h]
  simp [Sem.run_bind, Result.andThen]
theorem load_circ1 {w : World} {b : Nat} {x0 x1 : Value} (c0 : w.cell? ⟨b, 0, none⟩ = some x0) (c1 : w.cell? ⟨b, 1, none⟩ = some x1) : (loadVar 25 ⟨b, 0, none⟩).run Tryz.prog w = .ok (.agg #[x0, x1]) w := by
  go_simp
theorem results_circ1 {fn : Func} {p : Tmp} (h : fn.results = #[.cell p 25]) {tmps : Array Value} {w : World} {b : Nat} {x0 x1 : Value} (hp : tmps.getD p undef = .pointer (some ⟨b, 0, none⟩)) (c0 : w.cell? ⟨b, 0, none⟩ = some x0) (c1 : w.cell? ⟨b, 1, none⟩ = some x1) :
    (results fn tmps).run Tryz.prog w = .ok (.agg #[x0, x1]) w := by
  rw [results_cell1 h, hp]
  simp [asAddr, Result.andThen, load_circ1 c0 c1]
set_option maxHeartbeats 1000000 in
set_option maxRecDepth 100000 in
theorem tiny_any (w : World) :
    Calls Tryz.prog 34 #[] w fun e w' => ∃ (b : Nat) (A : Nat → Option Addr) (C : Nat → Nat), e = .returned (.agg #[.int .i64 1, .slice (some ⟨b, 0, none⟩) 1 1]) ∧ CRow w' (some ⟨b, 0, none⟩) tinyQ.layers A C ∧ Below w.heap.size w w' := by
  go_enter Tryz.func34, Tryz.ntmps34
  go_wp2_with fail
  refine bodyPost_ret (results_circ1 rfl rfl (by rw [World.cell?_alloc_old _ _ _ (by simp <;> omega), World.cell?_alloc_old _ _ _ (by simp <;> omega), World.cell?_alloc_new]; rfl) (by rw [World.cell?_alloc_old _ _ _ (by simp <;> omega), World.cell?_alloc_old _ _ _ (by simp <;> omega), World.cell?_alloc_new]; rfl)) rfl ?_
  refine ⟨w.heap.size + 1 + 1, fun _ => some ⟨w.heap.size + 1, 0, none⟩, fun _ => 2, rfl, ?_, (((Below.refl w.heap.size w).alloc (Nat.le_refl _) _).alloc (by simp) _).alloc (by simp; omega) _⟩
  generalize hO1 : Obj.cells #[Value.int .i64 1, .slice (some ⟨w.heap.size + 1 + 1, 0, none⟩) 1 1] 25 = o1
  have s1 : (w.alloc o1).heap.size = w.heap.size + 1 := by simp
  generalize w.alloc o1 = w1 at s1 ⊢
  generalize hO2 : Obj.cells #[Value.bool true, .int .i64 0, .int .i64 1, .bool false, .int .i64 0, .int .i64 1] 95 = o2
  have s2 : (w1.alloc o2).heap.size = w.heap.size + 1 + 1 := by simp [s1]
  have g : ∀ j, (w1.alloc o2).cell? ⟨w.heap.size + 1, j, none⟩ = (#[Value.bool true, .int .i64 0, .int .i64 1, .bool false, .int .i64 0, .int .i64 1] : Array Value)[j]? := fun j => by
    rw [← hO2, ← s1, World.cell?_alloc_new]
  generalize w1.alloc o2 = w2 at s2 g ⊢
  have hl : ∀ j, (w2.alloc (Obj.cells #[Value.int .i64 1, .slice (some ⟨w.heap.size + 1, 0, none⟩) 2 2] 91)).cell? ⟨w.heap.size + 1 + 1, j, none⟩ = (#[Value.int .i64 1, .slice (some ⟨w.heap.size + 1, 0, none⟩) 2 2] : Array Value)[j]? := fun j => by
    rw [← s2, World.cell?_alloc_new]
  have g' : ∀ j o, (w2.alloc o).cell? ⟨w.heap.size + 1, j, none⟩ = (#[Value.bool true, .int .i64 0, .int .i64 1, .bool false, .int .i64 0, .int .i64 1] : Array Value)[j]? := fun j o => by
    rw [World.cell?_alloc_old _ _ _ (by show w.heap.size + 1 ≠ w2.heap.size; omega)]; exact g j
  intro _
  refine ⟨_, _, rfl, fun i l hi => ?_⟩
  match i, hi with
  | 0, hi =>
    obtain rfl : (⟨1, [⟨true, 0, 1⟩, ⟨false, 0, 1⟩]⟩ : LQ) = l := by simpa [tinyQ] using hi
    refine ⟨(hl 0).trans rfl, (hl 1).trans rfl, fun _ => ⟨_, _, rfl, fun j q hq => ?_⟩, Nat.le_refl 2⟩
    match j, hq with
    | 0, hq =>
      obtain rfl : (⟨true, 0, 1⟩ : GQ) = q := by simpa using hq
      exact ⟨(g' 0 _).trans rfl, (g' 1 _).trans rfl, (g' 2 _).trans rfl⟩
    | 1, hq =>
      obtain rfl : (⟨false, 0, 1⟩ : GQ) = q := by simpa using hq
      exact ⟨(g' 3 _).trans rfl, (g' 4 _).trans rfl, (g' 5 _).trans rfl⟩
    | j + 2, hq => simp at hq
  | i + 1, hi => simp [tinyQ] at hi

end Go.Proofs.YtmjpcmeinlkfbaaGreatDoor

/-
  The right proof holds for just the outputs that have the circuit's value at the point that was drawn; contracts of the laws' own small and held.
-/
namespace Go.Proofs.YtmjpcmeinlkfbaaGreatDoor
open Go.RowKit
set_option linter.unusedVariables false
attribute [local go_sem ↓] Go.wp_at_zero Go.wp_at_succ

theorem right_iff {c : CQ} (hc : c.right) (f D fo : Nat → Int) :
    (partsQ c).holds D (rightP c f D).told (ofK (evS (fun j => kk (fo j)) (fun j => kk (D j)) ((partsQ c).lg 0))) (fun j => kk (f j)) ↔ evS (fun j => kk (fo j)) (fun j => kk (D j)) ((partsQ c).lg 0) = evS (fun j => kk (valsQ c f c.layers.length j)) (fun j => kk (D j)) ((partsQ c).lg 0) := by
  have n1 : 0 < (partsQ c).n := List.length_pos_iff.2 hc.some
  rw [rightP_told, Parts.right_holds (partsQ c) D _ _ (parts_fits hc) (parts_run hc f) (fun j => by have := parts_lg hc j; omega) n1]
  have h1 : (partsQ c).tru (valsK c f) D 0 = evS (fun j => kk (valsQ c f c.layers.length j)) (fun j => kk (D j)) ((partsQ c).lg 0) := rfl
  have h2 : (partsQ c).tru (valsK c f) D (partsQ c).n = evS (fun j => kk (f j)) ((partsQ c).z D (partsQ c).n) ((partsQ c).lg (partsQ c).n) := by
    refine evS_congr _ (fun b _ => ?_) (fun _ _ => rfl)
    show kk (valsQ c f (c.layers.length - c.layers.length) b) = _
    rw [Nat.sub_self]
    show kk (nrm (f b)) = kk (f b)
    exact kk_nrm _
  rw [h1, h2]
  constructor
  · rintro ⟨h, _⟩
    have := congrArg kk h
    rwa [kk_ofK, kk_ofK] at this
  · intro h
    exact ⟨by rw [h], rfl⟩
/-- A list of two numbers. -/
def pr (a b : Int) (j : Nat) : Int := if j = 0 then a else b
theorem Nums_pr {a b : Int} (h0 : 0 ≤ a) (h1 : a ≤ 18446744073709551615) (h2 : 0 ≤ b) (h3 : b ≤ 18446744073709551615) : Nums (pr a b) := fun j => by
  unfold pr
  split <;> omega
def dr4 (j : Nat) : Int := if j = 0 then 5 else if j = 1 then 6 else if j = 2 then 7 else 8
theorem Nums_dr4 : Nums dr4 := fun j => by
  unfold dr4
  repeat' split
  all_goals omega
theorem tiny_need : needQ tinyQ = 4 := by decide
theorem tiny_lg : (partsQ tinyQ).lg 0 = 1 := by decide
theorem tiny_ends : endsQ tinyQ 2 2 := by unfold endsQ; decide
theorem ev_one (f g : Nat → K) : evS f g 1 = f 0 + g 0 * (f 1 - f 0) := by
  rw [show (1 : Nat) = 0 + 1 from rfl, evS_fold, evS_zero]; rfl
theorem tiny_yes : (partsQ tinyQ).holds dr4 (rightP tinyQ (pr 3 4) dr4).told (ofK (evS (fun j => kk (pr 12 7 j)) (fun j => kk (dr4 j)) ((partsQ tinyQ).lg 0))) (fun j => kk (pr 3 4 j)) := by
  rw [right_iff tiny_right, tiny_lg, ev_one, ev_one]
  kernel_rfl
theorem tiny_no : ¬ (partsQ tinyQ).holds dr4 (rightP tinyQ (pr 3 4) dr4).told (ofK (evS (fun j => kk (pr 12 8 j)) (fun j => kk (dr4 j)) ((partsQ tinyQ).lg 0))) (fun j => kk (pr 3 4 j)) := by
  rw [right_iff tiny_right, tiny_lg, ev_one, ev_one]
  intro h
  have h2 := congrArg Fin.val h
  revert h2
  decide
set_option maxHeartbeats 2000000 in
set_option maxRecDepth 100000 in
theorem small_any (c : CQ) (g : Int) (ao : Option Addr) (n cap : Nat) (A : Nat → Option Addr) (C : Nat → Nat) (w : World) (hn63 : n ≤ maxLen) (hg : c.log = g) (hn : c.layers.length = n) (hr : CRow w ao c.layers A C) :
    Calls Tryz.prog 22 #[.agg #[.int .i64 g, .slice ao n cap]] w fun e w' => ∃ r : Bool, e = .returned (.bool r) ∧ (r = true → c.right) ∧ Below w.heap.size w w' := by
  have HS0 := hid (StW.start w g (.slice ao n cap) 25)
  have HC := hid (fun W (h : Below w.heap.size w W) => rcirc_any c g ao n cap A C W hg hn (hr.kept h))
  have HR := hid hr
  have HN := hid hn
  have n63 : (n : Int) ≤ 9223372036854775807 := by have : maxLen ≤ 9223372036854775807 := by decide
                                                   omega
  clear hg hn hr hn63
  go_enter Tryz.func22, Tryz.ntmps22
  go_wp2_with fail
  obtain ⟨B, hB⟩ : ∃ B, w.heap.size = B := ⟨_, rfl⟩
  rw [hB] at HS0
  rw [hB]
  clear hB
  generalize w.alloc (.cells #[.int .i64 g, .slice ao n cap] 25) = W1 at HS0 ⊢
  go_loopg [8] n (fun q i wr => ∃ t : Nat, t ≤ n ∧ q = n - t ∧ i = .int .i64 (t : Int) ∧ Hid (StW w wr B g (.slice ao n cap)))
  case atStart => exact ⟨0, by omega, rfl, rfl, HS0⟩
  case round =>
    clear HS0
    obtain ⟨t, htn, rfl, rfl, HS⟩ := hrel
    by_cases htl : t < n
    · obtain ⟨l, hl⟩ : ∃ l, c.layers[t]? = some l := ⟨c.layers[t]'(by rw [HN.out]; exact htl), by simp⟩
      obtain ⟨b, off, rfl, hcc⟩ := HR.out.kept HS.out.bel (by intro e; have := HN.out; rw [e] at this; simp at this; omega)
      obtain ⟨x0, x1, _, _⟩ := hcc t l hl
      rw [Nat.mul_comm 2 t] at x0 x1
      obtain ⟨lg, hlg⟩ : ∃ x, l.log = x := ⟨_, rfl⟩
      rw [hlg] at x0
      have t0 : (0 : Int) ≤ (t : Int) := by omega
      have t1 : (t : Int) < (n : Int) := by omega
      have HAL := hid (fun v => HS.out.next ((Below.refl wr.heap.size wr).alloc (Nat.le_refl _) (.cells #[.int .i64 lg, v] 91)))
      clear hcc hl hlg
      by_cases h2 : (2 : Int) < lg
      · go_wp2_with fail
        go_ret
        exact ⟨false, rfl, fun h => absurd h Bool.false_ne_true, (HAL.out _).bel⟩
      · go_wp2_with fail
        go_roundg (n - (t + 1))
        case measure => go_light; omega
        case rel => exact ⟨t + 1, by omega, rfl, by go_num, hid (HAL.out _)⟩
    · have t1 : ¬ ((t : Int) < (n : Int)) := by omega
      obtain ⟨z0, z1, zl⟩ := HS.out.box
      go_wp2_with fail
      refine (HC.out _ HS.out.bel).mono ?_
      rintro e w1 ⟨y, rfl, hy, hb⟩
      have HS1 := hid (HS.out.next hb)
      have HY := hid hy
      clear hb hy z0 z1 zl HS
      obtain ⟨z0, z1, zl⟩ := HS1.out.box
      by_cases hy0 : y = 0
      · subst hy0
        have HRT := hid (checkE_zero.1 HY.out)
        go_wp2_with fail
        go_ret
        exact ⟨_, rfl, fun _ => HRT.out, HS1.out.bel⟩
      · have e1 : (y == 0) = false := beq_eq_false_iff_ne.2 hy0
        go_wp2_with fail
        go_ret
        exact ⟨false, rfl, fun h => absurd h Bool.false_ne_true, HS1.out.bel⟩
/-- Below a world that grew, step by step. -/
theorem bel_alloc {X Y : World} (o : Obj) (h : Below X.heap.size X Y) : Below X.heap.size X (Y.alloc o) := h.alloc h.size o
theorem bel_trans {X Y Z : World} (hz : Below Y.heap.size Y Z) (h : Below X.heap.size X Y) : Below X.heap.size X Z := h.trans (hz.mono h.size)
theorem bel_drew {X Y : World} (h : Below X.heap.size X Y) : Below X.heap.size X Y.drew := h.drew
theorem row_pair (w : World) (x y : Int) (t : TypeId) : Row (w.alloc (.cells #[.int .u64 x, .int .u64 y] t)) w.heap.size 0 2 (pr x y) := fun j hj => by
  rw [Nat.zero_add, World.cell?_alloc_new]
  match j, hj with
  | 0, _ => rfl
  | 1, _ => rfl
theorem row_new2 {w : World} {n : Nat} {x y : Int} {t : TypeId} (h : n = w.heap.size) : Row (w.alloc (.cells #[.int .u64 x, .int .u64 y] t)) n 0 2 (pr x y) := by
  subst h
  exact row_pair w x y t
theorem row_old2 {w : World} {n : Nat} {f : Nat → Int} (o : Obj) (h : Row w n 0 2 f) : Row (w.alloc o) n 0 2 f := h.kept (bel_alloc o (Below.refl _ w)) (h.lt (by omega))
theorem row_bel2 {Y Z : World} {n : Nat} {f : Nat → Int} (hb : Below Y.heap.size Y Z) (h : Row Y n 0 2 f) : Row Z n 0 2 f := h.kept hb (h.lt (by omega))
theorem crow_old {w : World} {ao : Option Addr} {ls : List LQ} {A : Nat → Option Addr} {C : Nat → Nat} (o : Obj) (h : CRow w ao ls A C) : CRow (w.alloc o) ao ls A C := h.kept (bel_alloc o (Below.refl _ w))
theorem keep_cell {W W' : World} {a : Addr} {v : Value} (h : W.cell? a = some v) (hb : Below W.heap.size W W') : W'.cell? a = some v := (hb.cell (World.block_lt_of_cell? W _ h)).trans h
theorem row_four (w : World) (t : TypeId) : Row (w.alloc (.cells #[.int .u64 5, .int .u64 6, .int .u64 7, .int .u64 8] t)) w.heap.size 0 4 dr4 := fun j hj => by
  rw [Nat.zero_add, World.cell?_alloc_new]
  match j, hj with
  | 0, _ => rfl
  | 1, _ => rfl
  | 2, _ => rfl
  | 3, _ => rfl
set_option maxHeartbeats 8000000 in
set_option maxRecDepth 100000 in
theorem held_any (w : World) (ht : Tab w) :
    Calls Tryz.prog 7 #[] w fun e w' => e = .returned (.bool true) ∧ Below w.heap.size w w' := by
  have HT := hid ht
  clear ht
  go_enter Tryz.func7, Tryz.ntmps7
  go_wp2_with fail
  refine (tiny_any w).mono ?_
  rintro e w1 ⟨b1, A1, C1, rfl, hc1, hb1⟩
  go_wp2_with fail
  refine (draws_ok tinyQ 1 b1 0 1 1 A1 C1 w1 rfl rfl hc1 tiny_right).mono ?_
  rintro e w2 ⟨rfl, hb2⟩
  have HB2 := hid (bel_trans hb2 hb1)
  clear hc1 hb1 hb2
  go_wp2_with fail
  rw [tiny_need]
  refine (tiny_any _).mono ?_
  rintro e w3 ⟨b3, A3, C3, rfl, hc3, hb3⟩
  have HD3 : Hid (Row w3 w2.heap.size 0 4 dr4 ∧ w2.heap.size < w3.heap.size) := hid (by
    have h := (row_four w2 31).kept hb3 (by simp)
    exact ⟨h, h.lt (by omega)⟩)
  have HB3 := hid (bel_trans hb3 (bel_alloc _ HB2.out))
  have HC3 := hid hc3
  clear hc3 hb3 HB2
  obtain ⟨BD, hBD⟩ : ∃ x, w2.heap.size = x := ⟨_, rfl⟩
  rw [hBD] at HD3
  rw [hBD]
  clear hBD
  go_wp2_with fail
  have HPV : Hid (Calls Tryz.prog 26 #[.agg #[.int .i64 1, .slice (some ⟨b3, 0, none⟩) 1 1], .slice (some ⟨w3.heap.size, 0, none⟩) 2 2, .slice (some ⟨BD, 0, none⟩) 4 4] (w3.alloc (.cells #[.int .u64 3, .int .u64 4] 31)) fun e w' => proveOut tinyQ (pr 3 4) dr4 1 (w3.alloc (.cells #[.int .u64 3, .int .u64 4] 31)) e w') := hid (by
    have hal := (Below.refl w3.heap.size w3).alloc (Nat.le_refl _) (.cells #[.int .u64 3, .int .u64 4] 31)
    have hbw := bel_trans hal HB3.out
    exact pv_ok tinyQ 1 b3 0 1 1 A3 C3 w3.heap.size 0 2 2 (pr 3 4) BD 0 4 4 dr4 _ rfl rfl (HC3.out.kept hal) tiny_right (shl_pow (k := 1) (by omega)) (by decide) (row_pair w3 3 4 _) (Nums_pr (by omega) (by omega) (by omega) (by omega)) (HD3.out.1.kept hal HD3.out.2) Nums_dr4 tiny_need.symm (by omega) (by decide) (HT.out.kept hbw HT.out.1))
  refine (HPV.out).mono ?_
  rintro e w4 ⟨PB, m, rfl, hpf, hlow, hb4⟩
  have HB4 := hid (bel_trans hb4 (bel_alloc _ HB3.out))
  have HD4 : Hid (Row w4 BD 0 4 dr4 ∧ BD < w4.heap.size) := hid (by
    have hal := bel_trans hb4 ((Below.refl w3.heap.size w3).alloc (Nat.le_refl _) (.cells #[.int .u64 3, .int .u64 4] 31))
    exact ⟨HD3.out.1.kept hal HD3.out.2, Nat.lt_of_lt_of_le HD3.out.2 hal.size⟩)
  have HPF := hid hpf
  clear hpf hlow hb4 HB3 HD3 HC3 HPV
  go_wp2_with fail
  have hal := (Below.refl w4.heap.size w4).alloc (Nat.le_refl _) (.cells #[.slice (some ⟨PB, 0, none⟩) 1 1] 63)
  have HB5 := hid (bel_trans hal HB4.out)
  have HD5 : Hid (Row (w4.alloc (.cells #[.slice (some ⟨PB, 0, none⟩) 1 1] 63)) BD 0 4 dr4 ∧ BD < (w4.alloc (.cells #[.slice (some ⟨PB, 0, none⟩) 1 1] 63)).heap.size) := hid ⟨HD4.out.1.kept hal HD4.out.2, Nat.lt_of_lt_of_le HD4.out.2 hal.size⟩
  have HP5 := hid (HPF.out.kept hal)
  have HQ5 : Hid ((w4.alloc (.cells #[.slice (some ⟨PB, 0, none⟩) 1 1] 63)).cell? ⟨w4.heap.size, 0, none⟩ = some (.slice (some ⟨PB, 0, none⟩) 1 1)) := hid (by rw [World.cell?_alloc_new]; rfl)
  obtain ⟨Q, hQ⟩ : ∃ x, w4.heap.size = x := ⟨_, rfl⟩
  rw [hQ] at HQ5
  rw [hQ]
  clear hQ hal HB4 HD4 HPF
  generalize w4.alloc (.cells #[.slice (some ⟨PB, 0, none⟩) 1 1] 63) = W5 at HB5 HD5 HP5 HQ5 ⊢
  have HV : Hid (∀ (q : Int) (r : Bool) (W' : World) (x1 x2 bT : Nat) (A : Nat → Option Addr) (C : Nat → Nat), (q = 7 ∧ r = true ∨ q = 8 ∧ r = false) → CRow W' (some ⟨bT, 0, none⟩) tinyQ.layers A C → Row W' x1 0 2 (pr 3 4) → Row W' x2 0 2 (pr 12 q) → Below W5.heap.size W5 W' → Calls Tryz.prog 35 #[.agg #[.int .i64 1, .slice (some ⟨bT, 0, none⟩) 1 1], .slice (some ⟨x1, 0, none⟩) 2 2, .slice (some ⟨x2, 0, none⟩) 2 2, .agg #[.slice (some ⟨PB, 0, none⟩) 1 1], .slice (some ⟨BD, 0, none⟩) 4 4] W' fun e w'' => e = .returned (.tuple #[.bool r, .int .i64 0]) ∧ Below W5.heap.size W5 w'') := hid (fun q r W' x1 x2 bT A C hq hcr h1 h2 hb => by
    have hq2 : 0 ≤ q ∧ q ≤ 18446744073709551615 := by rcases hq with ⟨h, _⟩ | ⟨h, _⟩ <;> omega
    refine (vf_ok tinyQ 1 bT 0 1 1 A C x1 0 2 2 x2 0 2 2 (pr 3 4) (pr 12 q) (some ⟨PB, 0, none⟩) 1 1 (rightP tinyQ (pr 3 4) dr4) m BD 0 4 4 dr4 W' rfl rfl hcr tiny_right rfl (HP5.out.kept hb) (rightP_nums _ _ _) (rightP_shaped _ _ _) tiny_ends h1 (Nums_pr (by omega) (by omega) (by omega) (by omega)) h2 (Nums_pr (by omega) (by omega) hq2.1 hq2.2) (HD5.out.1.kept hb HD5.out.2) Nums_dr4 tiny_need.symm (by omega) (by decide) (HT.out.kept (bel_trans hb HB5.out) HT.out.1)).mono ?_
    rintro e w'' ⟨r', rfl, hr', hb'⟩
    refine ⟨?_, bel_trans hb' hb⟩
    rcases hq with ⟨rfl, rfl⟩ | ⟨rfl, rfl⟩
    · rw [hr'.2 tiny_yes]
    · cases r' with
      | false => rfl
      | true => exact absurd (hr'.1 rfl) tiny_no)
  have hq := HQ5.out
  have HBS := hid (Below.refl W5.heap.size W5)
  clear HD5 HP5 HQ5
  go_cut [6, 7] (fun a6 a7 wx => a6 = .bool true ∧ a7 = .int .i64 0 ∧ Hid (Below W5.heap.size W5 wx))
  case first =>
    go_region_held3 (fun W => W.cell? ⟨Q, 0, none⟩ = some (.slice (some ⟨PB, 0, none⟩) 1 1)) (first | assumption | (refine keep_cell hq ?_; repeat (first | exact HBS.out | exact hbV | apply bel_alloc | refine bel_trans hbT ?_ | apply bel_drew))) (first
      | (go_at_call 34; refine (tiny_any _).mono ?_; rintro e wT ⟨bT, AT, CT, rfl, hcT, hbT⟩)
      | (go_at_call 35; refine (HV.out 7 true _ _ _ _ AT CT (.inl ⟨rfl, rfl⟩) (by repeat (first | exact hcT | apply crow_old)) (by repeat (first | exact row_new2 (by simp) | apply row_old2 | refine row_bel2 hbT ?_)) (by repeat (first | exact row_new2 (by simp) | apply row_old2 | refine row_bel2 hbT ?_)) (by repeat (first | exact HBS.out | apply bel_alloc | refine bel_trans hbT ?_ | apply bel_drew))).mono ?_; rintro e wV ⟨rfl, hbV⟩))
    all_goals (go_wp2_with fail)
    all_goals go_meet
    all_goals exact ⟨rfl, rfl, hid hbV⟩
  case rest =>
    clear HBS
    obtain ⟨rfl, rfl, HBS⟩ := hcut
    go_wp2_with fail
    go_cut [8, 9] (fun a8 a9 wx => a8 = .bool false ∧ a9 = .int .i64 0 ∧ Hid (Below W5.heap.size W5 wx))
    case first =>
      go_region_held3 (fun W => W.cell? ⟨Q, 0, none⟩ = some (.slice (some ⟨PB, 0, none⟩) 1 1)) (first | assumption | (refine keep_cell hq ?_; repeat (first | exact HBS.out | exact hbV | apply bel_alloc | refine bel_trans hbT ?_ | apply bel_drew))) (first
        | (go_at_call 34; refine (tiny_any _).mono ?_; rintro e wT ⟨bT, AT, CT, rfl, hcT, hbT⟩)
        | (go_at_call 35; refine (HV.out 8 false _ _ _ _ AT CT (.inr ⟨rfl, rfl⟩) (by repeat (first | exact hcT | apply crow_old)) (by repeat (first | exact row_new2 (by simp) | apply row_old2 | refine row_bel2 hbT ?_)) (by repeat (first | exact row_new2 (by simp) | apply row_old2 | refine row_bel2 hbT ?_)) (by repeat (first | exact HBS.out | apply bel_alloc | refine bel_trans hbT ?_ | apply bel_drew))).mono ?_; rintro e wV ⟨rfl, hbV⟩))
      all_goals (go_wp2_with fail)
      all_goals go_meet
      all_goals exact ⟨rfl, rfl, hid hbV⟩
    case rest =>
      clear HBS
      obtain ⟨rfl, rfl, HBS⟩ := hcut
      go_wp2_with fail
      go_ret
      exact ⟨rfl, bel_trans HBS.out HB5.out⟩

end Go.Proofs.YtmjpcmeinlkfbaaGreatDoor

/-
  A contract of slices.Equal at numbers of 64 bits, where both lists have the same numbers; nothing is written.
-/
namespace Go.Proofs.YtmjpcmeinlkfbaaGreatDoor
open Go.RowKit
set_option linter.unusedVariables false
attribute [local go_sem ↓] Go.wp_at_zero Go.wp_at_succ

set_option maxHeartbeats 2000000 in
set_option maxRecDepth 100000 in
theorem equal_ok (a0 a1 : Option Addr) (n c0 c1 : Nat) (f g : Nat → Int) (w : World) (hn : n ≤ 100000) (p0 : PRow w a0 n f) (p1 : PRow w a1 n g) (e : ∀ j, j < n → f j = g j) :
    Calls Tryz.prog 21 #[.slice a0 n c0, .slice a1 n c1] w fun e w' => e = .returned (.bool true) ∧ Below w.heap.size w w' := by
  have H0 := hid p0
  have H1 := hid (p1.congr fun j hj => (e j hj).symm)
  clear p0 p1 e
  go_enter Tryz.func21, Tryz.ntmps21
  go_wp2_with fail
  go_loopg [13] n (fun q i wr => ∃ k : Nat, k ≤ n ∧ q = n - k ∧ i = .int .i64 (k : Int) ∧ Hid (PRow wr a0 n f) ∧ Hid (PRow wr a1 n f) ∧ Hid (Below w.heap.size w wr))
  case atStart => exact ⟨0, by omega, rfl, rfl, H0, H1, hid (Below.refl _ _)⟩
  case round =>
    clear H0 H1
    obtain ⟨k, hk, rfl, rfl, H0, H1, HB⟩ := hrel
    by_cases hlt : k < n
    · obtain ⟨b1, o1, rfl, r1⟩ := H0.out (by omega)
      obtain ⟨b2, o2, rfl, r2⟩ := H1.out (by omega)
      have c1 := r1 k hlt
      have c2 := r2 k hlt
      clear r1 r2
      obtain ⟨a, ha⟩ : ∃ a, f k = a := ⟨_, rfl⟩
      rw [ha] at c1 c2
      clear ha
      have k0 : (0 : Int) ≤ (k : Int) := by omega
      have k1 : (k : Int) < (n : Int) := by omega
      go_wp2_with fail
      go_region_with (first | fail)
      all_goals (go_wp2_with fail)
      all_goals (go_roundg (n - (k + 1)))
      all_goals first | (go_light; omega) | (exact ⟨k + 1, by omega, rfl, by go_num, hid H0.out.drew, hid H1.out.drew, hid HB.out.drew⟩)
    · have e : k = n := by omega
      subst e
      go_wp2_with fail
      go_ret
      exact ⟨rfl, HB.out⟩

end Go.Proofs.YtmjpcmeinlkfbaaGreatDoor

/-
  The whole's own tiny circuit and what is said of it: it is proved without asking, and a wrong output is refused.
-/
namespace Go.Proofs.YtmjpcmeinlkfbaaGreatDoor
open Go.RowKit
set_option linter.unusedVariables false
attribute [local go_sem ↓] Go.wp_at_zero Go.wp_at_succ

def topQ : CQ := ⟨1, [⟨1, [⟨true, 0, 1⟩, ⟨false, 0, 1⟩]⟩, ⟨0, [⟨true, 0, 1⟩]⟩]⟩
theorem top_right : topQ.right := by
  refine ⟨by decide, by decide, by decide, ⟨by decide, by decide, ?_⟩, ⟨by decide, by decide, ?_⟩, trivial⟩
  · intro q hq
    simp at hq
    rcases hq with rfl | rfl <;> exact ⟨by decide, by decide⟩
  · intro q hq
    simp at hq
    subst hq
    exact ⟨by decide, by decide⟩
/-- Its only output. -/
theorem top_out : valsQ topQ (pr 3 4) 2 0 = 84 := by kernel_rfl
theorem top_lg0 : (partsQ topQ).lg 0 = 0 := by decide
theorem top_lg1 : 0 < (partsQ topQ).lg 1 := by decide
theorem top_ends : endsQ topQ 2 1 := by unfold endsQ; decide
def one1 (x : Int) (_ : Nat) : Int := x
theorem Nums_one1 {x : Int} (h0 : 0 ≤ x) (h1 : x ≤ 18446744073709551615) : Nums (one1 x) := fun _ => ⟨h0, h1⟩
theorem row_one (w : World) (x : Int) (t : TypeId) : Row (w.alloc (.cells #[.int .u64 x] t)) w.heap.size 0 1 (one1 x) := fun j hj => by
  rw [Nat.zero_add, World.cell?_alloc_new]
  match j, hj with
  | 0, _ => rfl
theorem row_new1 {w : World} {n : Nat} {x : Int} {t : TypeId} (h : n = w.heap.size) : Row (w.alloc (.cells #[.int .u64 x] t)) n 0 1 (one1 x) := by
  subst h
  exact row_one w x t
theorem row_old1 {w : World} {n : Nat} {f : Nat → Int} (o : Obj) (h : Row w n 0 1 f) : Row (w.alloc o) n 0 1 f := h.kept (bel_alloc o (Below.refl _ w)) (h.lt (by omega))
theorem row_bel1 {Y Z : World} {n : Nat} {f : Nat → Int} (hb : Below Y.heap.size Y Z) (h : Row Y n 0 1 f) : Row Z n 0 1 f := h.kept hb (h.lt (by omega))
/-- The proof of it holds for 84, and not for 85. -/
theorem top_just (p : PQ) (hp : p = fiatP topQ 2 1 (pr 3 4)) (D : Nat → Int) (x : Int) (inp : Nat → K) (h : (partsQ topQ).holds D p.told (ofK (evS (fun j => kk (one1 x j)) (fun j => kk (D j)) ((partsQ topQ).lg 0))) inp) : kk x = kk 84 := by
  subst hp
  have h2 := first_just top_right (pr 3 4) _ D _ inp top_lg1 h
  have h3 := congrArg kk h2
  rw [kk_ofK, kk_ofK, top_lg0, evS_zero] at h3
  unfold Parts.tru at h3
  rw [top_lg0, evS_zero] at h3
  have h4 : valsK topQ (pr 3 4) 0 0 = kk 84 := by
    show kk (valsQ topQ (pr 3 4) 2 0) = _
    rw [top_out]
  rw [h4] at h3
  exact h3
theorem top_ne : kk 85 ≠ kk 84 := by decide
theorem top_val (j : Nat) (hj : j < 1) : valsQ topQ (pr 3 4) 2 j = one1 84 j := by
  obtain rfl : j = 0 := by omega
  exact top_out
theorem tkK_congr (g : Nat → K) (n : Nat) {f f' : Nat → Int} (h : ∀ j, j < n → kk (f j) = kk (f' j)) : tkK g n f = tkK g n f' := by
  unfold tkK
  rw [takesK_congr n n h]
theorem top_askG : askG topQ 2 1 (pr 3 4) (one1 84) = askG topQ 2 1 (pr 3 4) (valsQ topQ (pr 3 4) 2) := by
  unfold askG
  exact tkK_congr _ 1 fun j hj => by rw [top_val j hj]
theorem top_yes : (partsQ topQ).holds (fiatD topQ 2 1 (pr 3 4) (one1 84) (fiatP topQ 2 1 (pr 3 4))) (fiatP topQ 2 1 (pr 3 4)).told (ofK (evS (fun j => kk (one1 84 j)) (fun j => kk (fiatD topQ 2 1 (pr 3 4) (one1 84) (fiatP topQ 2 1 (pr 3 4)) j)) ((partsQ topQ).lg 0))) (fun j => kk (pr 3 4 j)) := by
  have h := fiat_yes top_right 2 1 (pr 3 4)
  have e : fiatD topQ 2 1 (pr 3 4) (valsQ topQ (pr 3 4) topQ.layers.length) (fiatP topQ 2 1 (pr 3 4)) = fiatD topQ 2 1 (pr 3 4) (one1 84) (fiatP topQ 2 1 (pr 3 4)) := by
    unfold fiatD ask1
    rw [top_askG]; rfl
  rw [e] at h
  rw [top_lg0, evS_zero] at h ⊢
  have e2 : valsQ topQ (pr 3 4) topQ.layers.length 0 = one1 84 0 := top_val 0 (by omega)
  rw [e2] at h
  exact h

set_option maxHeartbeats 2000000 in
set_option maxRecDepth 100000 in
theorem ttiny_any (w : World) :
    Calls Tryz.prog 59 #[] w fun e w' => ∃ (b : Nat) (A : Nat → Option Addr) (C : Nat → Nat), e = .returned (.agg #[.int .i64 1, .slice (some ⟨b, 0, none⟩) 2 2]) ∧ CRow w' (some ⟨b, 0, none⟩) topQ.layers A C ∧ Below w.heap.size w w' := by
  go_enter Tryz.func59, Tryz.ntmps59
  go_wp2_with fail
  refine bodyPost_ret (results_circ1 rfl rfl (by rw [World.cell?_alloc_old _ _ _ (by simp <;> omega), World.cell?_alloc_old _ _ _ (by simp <;> omega), World.cell?_alloc_old _ _ _ (by simp <;> omega), World.cell?_alloc_new]; rfl) (by rw [World.cell?_alloc_old _ _ _ (by simp <;> omega), World.cell?_alloc_old _ _ _ (by simp <;> omega), World.cell?_alloc_old _ _ _ (by simp <;> omega), World.cell?_alloc_new]; rfl)) rfl ?_
  refine ⟨w.heap.size + 1 + 1 + 1, fun i => if i = 0 then some ⟨w.heap.size + 1, 0, none⟩ else some ⟨w.heap.size + 1 + 1, 0, none⟩, fun i => if i = 0 then 2 else 1, rfl, ?_, ((((Below.refl w.heap.size w).alloc (Nat.le_refl _) _).alloc (by simp) _).alloc (by simp; omega) _).alloc (by simp; omega) _⟩
  generalize hO1 : Obj.cells #[Value.int .i64 1, .slice (some ⟨w.heap.size + 1 + 1 + 1, 0, none⟩) 2 2] 25 = o1
  have s1 : (w.alloc o1).heap.size = w.heap.size + 1 := by simp
  generalize w.alloc o1 = w1 at s1 ⊢
  generalize hO2 : Obj.cells #[Value.bool true, .int .i64 0, .int .i64 1, .bool false, .int .i64 0, .int .i64 1] 95 = o2
  have s2 : (w1.alloc o2).heap.size = w.heap.size + 1 + 1 := by simp [s1]
  have g : ∀ j, (w1.alloc o2).cell? ⟨w.heap.size + 1, j, none⟩ = (#[Value.bool true, .int .i64 0, .int .i64 1, .bool false, .int .i64 0, .int .i64 1] : Array Value)[j]? := fun j => by
    rw [← hO2, ← s1, World.cell?_alloc_new]
  generalize w1.alloc o2 = w2 at s2 g ⊢
  generalize hO3 : Obj.cells #[Value.bool true, .int .i64 0, .int .i64 1] 95 = o3
  have s3 : (w2.alloc o3).heap.size = w.heap.size + 1 + 1 + 1 := by simp [s2]
  have k : ∀ j, (w2.alloc o3).cell? ⟨w.heap.size + 1 + 1, j, none⟩ = (#[Value.bool true, .int .i64 0, .int .i64 1] : Array Value)[j]? := fun j => by
    rw [← hO3, ← s2, World.cell?_alloc_new]
  have g3 : ∀ j, (w2.alloc o3).cell? ⟨w.heap.size + 1, j, none⟩ = (#[Value.bool true, .int .i64 0, .int .i64 1, .bool false, .int .i64 0, .int .i64 1] : Array Value)[j]? := fun j => by
    rw [World.cell?_alloc_old _ _ _ (by show w.heap.size + 1 ≠ w2.heap.size; omega)]; exact g j
  generalize w2.alloc o3 = w3 at s3 k g3 ⊢
  have hl : ∀ j, (w3.alloc (Obj.cells #[Value.int .i64 1, .slice (some ⟨w.heap.size + 1, 0, none⟩) 2 2, .int .i64 0, .slice (some ⟨w.heap.size + 1 + 1, 0, none⟩) 1 1] 91)).cell? ⟨w.heap.size + 1 + 1 + 1, j, none⟩ = (#[Value.int .i64 1, .slice (some ⟨w.heap.size + 1, 0, none⟩) 2 2, .int .i64 0, .slice (some ⟨w.heap.size + 1 + 1, 0, none⟩) 1 1] : Array Value)[j]? := fun j => by
    rw [← s3, World.cell?_alloc_new]
  have g' : ∀ j o, (w3.alloc o).cell? ⟨w.heap.size + 1, j, none⟩ = (#[Value.bool true, .int .i64 0, .int .i64 1, .bool false, .int .i64 0, .int .i64 1] : Array Value)[j]? := fun j o => by
    rw [World.cell?_alloc_old _ _ _ (by show w.heap.size + 1 ≠ w3.heap.size; omega)]; exact g3 j
  have k' : ∀ j o, (w3.alloc o).cell? ⟨w.heap.size + 1 + 1, j, none⟩ = (#[Value.bool true, .int .i64 0, .int .i64 1] : Array Value)[j]? := fun j o => by
    rw [World.cell?_alloc_old _ _ _ (by show w.heap.size + 1 + 1 ≠ w3.heap.size; omega)]; exact k j
  intro _
  refine ⟨_, _, rfl, fun i l hi => ?_⟩
  match i, hi with
  | 0, hi =>
    obtain rfl : (⟨1, [⟨true, 0, 1⟩, ⟨false, 0, 1⟩]⟩ : LQ) = l := by simpa [topQ] using hi
    refine ⟨(hl 0).trans rfl, (hl 1).trans rfl, fun _ => ⟨_, _, rfl, fun j q hq => ?_⟩, Nat.le_refl 2⟩
    match j, hq with
    | 0, hq =>
      obtain rfl : (⟨true, 0, 1⟩ : GQ) = q := by simpa using hq
      exact ⟨(g' 0 _).trans rfl, (g' 1 _).trans rfl, (g' 2 _).trans rfl⟩
    | 1, hq =>
      obtain rfl : (⟨false, 0, 1⟩ : GQ) = q := by simpa using hq
      exact ⟨(g' 3 _).trans rfl, (g' 4 _).trans rfl, (g' 5 _).trans rfl⟩
    | j + 2, hq => simp at hq
  | 1, hi =>
    obtain rfl : (⟨0, [⟨true, 0, 1⟩]⟩ : LQ) = l := by simpa [topQ] using hi
    refine ⟨(hl 2).trans rfl, (hl 3).trans rfl, fun _ => ⟨_, _, rfl, fun j q hq => ?_⟩, Nat.le_refl 1⟩
    match j, hq with
    | 0, hq =>
      obtain rfl : (⟨true, 0, 1⟩ : GQ) = q := by simpa using hq
      exact ⟨(k' 0 _).trans rfl, (k' 1 _).trans rfl, (k' 2 _).trans rfl⟩
    | j + 1, hq => simp at hq
  | i + 2, hi => simp [topQ] at hi

set_option maxHeartbeats 8000000 in
set_option maxRecDepth 100000 in
theorem said_any (w : World) (ht : Tab w) :
    Calls Tryz.prog 27 #[] w fun e w' => e = .returned (.bool true) ∧ Below w.heap.size w w' := by
  have HT := hid (fun W (h : Below w.heap.size w W) => ht.kept h ht.1)
  clear ht
  go_enter Tryz.func27, Tryz.ntmps27
  go_wp2_with fail
  refine (ttiny_any w).mono ?_
  rintro e w1 ⟨b1, A1, C1, rfl, hc1, hb1⟩
  have HB1 := hid hb1
  have HC1 := hid hc1
  clear hc1 hb1
  go_wp2_with fail
  have HPV : Hid (Calls Tryz.prog 58 #[.agg #[.int .i64 1, .slice (some ⟨b1, 0, none⟩) 2 2], .slice (some ⟨w1.heap.size, 0, none⟩) 2 2] (w1.alloc (.cells #[.int .u64 3, .int .u64 4] 31)) fun e w' => fproveOut topQ (pr 3 4) 2 2 1 (w1.alloc (.cells #[.int .u64 3, .int .u64 4] 31)) e w') := hid (by
    have hal := (Below.refl w1.heap.size w1).alloc (Nat.le_refl _) (.cells #[.int .u64 3, .int .u64 4] 31)
    exact fpv_ok topQ 1 b1 0 2 2 A1 C1 w1.heap.size 0 2 2 1 (pr 3 4) _ rfl rfl (HC1.out.kept hal) top_right (shl_pow (k := 1) (by omega)) (by decide) (by decide) (row_pair w1 3 4 _) (Nums_pr (by omega) (by omega) (by omega) (by omega)) (HT.out _ (bel_trans hal HB1.out)))
  refine (HPV.out).mono ?_
  rintro e w2 ⟨dk, PB, m, rfl, hrow, hpf, hlow, hfr, hb2⟩
  have hal := (Below.refl w2.heap.size w2).alloc (Nat.le_refl _) (.cells #[.slice (some ⟨PB, 0, none⟩) 2 2] 63)
  have HB3 := hid (bel_trans hal (bel_trans hb2 (bel_alloc _ HB1.out)))
  have HP3 := hid (hpf.kept hal)
  have HD3 : Hid (Row (w2.alloc (.cells #[.slice (some ⟨PB, 0, none⟩) 2 2] 63)) dk 0 1 (valsQ topQ (pr 3 4) 2)) := hid (hrow.kept hal (hrow.lt (by omega)))
  have HQ3 : Hid ((w2.alloc (.cells #[.slice (some ⟨PB, 0, none⟩) 2 2] 63)).cell? ⟨w2.heap.size, 0, none⟩ = some (.slice (some ⟨PB, 0, none⟩) 2 2)) := hid (by rw [World.cell?_alloc_new]; rfl)
  clear hrow hpf hlow hfr hb2 hal HB1 HC1 HPV
  go_wp2_with fail
  obtain ⟨Q, hQ⟩ : ∃ x, w2.heap.size = x := ⟨_, rfl⟩
  rw [hQ] at HQ3
  rw [hQ]
  clear hQ
  generalize w2.alloc (.cells #[.slice (some ⟨PB, 0, none⟩) 2 2] 63) = W3 at HB3 HP3 HD3 HQ3 ⊢
  have HV : Hid (∀ (q : Int) (r : Bool) (W' : World) (x1 x2 bT : Nat) (A : Nat → Option Addr) (C : Nat → Nat), (q = 84 ∧ r = true ∨ q = 85 ∧ r = false) → CRow W' (some ⟨bT, 0, none⟩) topQ.layers A C → Row W' x1 0 2 (pr 3 4) → Row W' x2 0 1 (one1 q) → Below W3.heap.size W3 W' → Calls Tryz.prog 60 #[.agg #[.int .i64 1, .slice (some ⟨bT, 0, none⟩) 2 2], .slice (some ⟨x1, 0, none⟩) 2 2, .slice (some ⟨x2, 0, none⟩) 1 1, .agg #[.slice (some ⟨PB, 0, none⟩) 2 2]] W' fun e w'' => e = .returned (.tuple #[.bool r, .int .i64 0]) ∧ Below W3.heap.size W3 w'') := hid (fun q r W' x1 x2 bT A C hq hcr h1 h2 hb => by
    have hq2 : 0 ≤ q ∧ q ≤ 18446744073709551615 := by rcases hq with ⟨h, _⟩ | ⟨h, _⟩ <;> omega
    refine (fvf_ok topQ 1 bT 0 2 2 A C x1 0 2 2 x2 0 1 1 (pr 3 4) (one1 q) (some ⟨PB, 0, none⟩) 2 2 (fiatP topQ 2 1 (pr 3 4)) m W' rfl rfl hcr top_right rfl (HP3.out.kept hb) (fiatP_nums _ _ _ _) (fiatP_shaped _ _ _ _) top_ends h1 (Nums_pr (by omega) (by omega) (by omega) (by omega)) h2 (Nums_one1 hq2.1 hq2.2) (HT.out _ (bel_trans hb HB3.out))).mono ?_
    rintro e w'' ⟨r', x, rfl, ⟨rfl, hr'⟩, hb'⟩
    refine ⟨?_, bel_trans hb' hb⟩
    rcases hq with ⟨rfl, rfl⟩ | ⟨rfl, rfl⟩
    · rw [hr'.2 top_yes]
    · cases r' with
      | false => rfl
      | true => exact absurd (top_just _ rfl _ _ _ (hr'.1 rfl)) top_ne)
  have hq := HQ3.out
  have HBS := hid (Below.refl W3.heap.size W3)
  go_cut [4, 5] (fun a6 a7 wx => a6 = .bool true ∧ a7 = .int .i64 0 ∧ Hid (Below W3.heap.size W3 wx))
  case first =>
    go_region_held3 (fun W => W.cell? ⟨Q, 0, none⟩ = some (.slice (some ⟨PB, 0, none⟩) 2 2)) (first | assumption | (refine keep_cell hq ?_; repeat (first | exact HBS.out | exact hbV | apply bel_alloc | refine bel_trans hbT ?_ | apply bel_drew))) (first
      | (go_at_call 59; refine (ttiny_any _).mono ?_; rintro e wT ⟨bT, AT, CT, rfl, hcT, hbT⟩)
      | (go_at_call 60; refine (HV.out 84 true _ _ _ _ AT CT (.inl ⟨rfl, rfl⟩) (by repeat (first | exact hcT | apply crow_old)) (by repeat (first | exact row_new2 (by simp) | apply row_old2 | refine row_bel2 hbT ?_)) (by repeat (first | exact row_new1 (by simp) | apply row_old1 | refine row_bel1 hbT ?_)) (by repeat (first | exact HBS.out | apply bel_alloc | refine bel_trans hbT ?_ | apply bel_drew))).mono ?_; rintro e wV ⟨rfl, hbV⟩))
    all_goals (go_wp2_with fail)
    all_goals go_meet
    all_goals exact ⟨rfl, rfl, hid hbV⟩
  case rest =>
    clear HBS
    obtain ⟨rfl, rfl, HBS⟩ := hcut
    go_wp2_with fail
    go_cut [6, 7] (fun a8 a9 wx => a8 = .bool false ∧ a9 = .int .i64 0 ∧ Hid (Below W3.heap.size W3 wx))
    case first =>
      go_region_held3 (fun W => W.cell? ⟨Q, 0, none⟩ = some (.slice (some ⟨PB, 0, none⟩) 2 2)) (first | assumption | (refine keep_cell hq ?_; repeat (first | exact HBS.out | exact hbV | apply bel_alloc | refine bel_trans hbT ?_ | apply bel_drew))) (first
        | (go_at_call 59; refine (ttiny_any _).mono ?_; rintro e wT ⟨bT, AT, CT, rfl, hcT, hbT⟩)
        | (go_at_call 60; refine (HV.out 85 false _ _ _ _ AT CT (.inr ⟨rfl, rfl⟩) (by repeat (first | exact hcT | apply crow_old)) (by repeat (first | exact row_new2 (by simp) | apply row_old2 | refine row_bel2 hbT ?_)) (by repeat (first | exact row_new1 (by simp) | apply row_old1 | refine row_bel1 hbT ?_)) (by repeat (first | exact HBS.out | apply bel_alloc | refine bel_trans hbT ?_ | apply bel_drew))).mono ?_; rintro e wV ⟨rfl, hbV⟩))
      all_goals (go_wp2_with fail)
      all_goals go_meet
      all_goals exact ⟨rfl, rfl, hid hbV⟩
    case rest =>
      clear HBS
      obtain ⟨rfl, rfl, HBS⟩ := hcut
      have HD4 := hid (HD3.out.kept HBS.out (HD3.out.lt (by omega)))
      have HB4 := hid (bel_trans HBS.out HB3.out)
      clear HV HD3 HB3 HBS HQ3 hq HP3
      have HEQ : Hid (∀ x1, Row (wc.alloc (.cells #[.int .u64 84] 31)) x1 0 1 (one1 84) → Calls Tryz.prog 21 #[.slice (some ⟨dk, 0, none⟩) 1 1, .slice (some ⟨x1, 0, none⟩) 1 1] (wc.alloc (.cells #[.int .u64 84] 31)) fun e w' => e = .returned (.bool true) ∧ Below wc.heap.size wc w') := hid (fun x1 hx => by
        have hal := (Below.refl wc.heap.size wc).alloc (Nat.le_refl _) (.cells #[.int .u64 84] 31)
        refine (equal_ok (some ⟨dk, 0, none⟩) (some ⟨x1, 0, none⟩) 1 1 1 _ _ _ (by omega) (PRow.of (HD4.out.kept hal (HD4.out.lt (by omega)))) (PRow.of hx) top_val).mono ?_
        rintro e w' ⟨rfl, hb⟩
        exact ⟨rfl, hal.trans (hb.mono hal.size)⟩)
      go_wp2_with (go_at_call 21; refine (HEQ.out _ (row_one wc 84 _)).mono ?_; rintro e w5 ⟨rfl, hb5⟩)
      go_ret
      exact ⟨rfl, bel_trans hb5 HB4.out⟩

/-- What the laws of the whole carry: the circuit, inputs, draws, values. -/
structure TpS (w W : World) (X : Nat) (g : Int) (v : Value) (BX N : Nat) (x : Nat → Int) (BD q : Nat) (d : Nat → Int) (V n dk M : Nat) (y : Nat → Int) : Prop where
  st : StW w W X g v
  x : Row W BX 0 N x
  d : Row W BD 0 q d
  cv : W.cell? ⟨V, n, none⟩ = some (.slice (some ⟨dk, 0, none⟩) M M)
  y : Row W dk 0 M y
  hN : 1 ≤ N
  hq : 1 ≤ q
  hM : 1 ≤ M
theorem TpS.next {w W W' : World} {X : Nat} {g : Int} {v : Value} {BX N : Nat} {x : Nat → Int} {BD q : Nat} {d : Nat → Int} {V n dk M : Nat} {y : Nat → Int} (h : TpS w W X g v BX N x BD q d V n dk M y) (hb : Below W.heap.size W W') : TpS w W' X g v BX N x BD q d V n dk M y :=
  ⟨h.st.next hb, h.x.kept hb (h.x.lt h.hN), h.d.kept hb (h.d.lt h.hq), keep_cell h.cv hb, h.y.kept hb (h.y.lt h.hM), h.hN, h.hq, h.hM⟩
/-- Four cells. -/
abbrev FourT (X V n Q : Nat) (u v d p : Value) (W : World) : Prop := W.cell? ⟨X, 0, none⟩ = some u ∧ W.cell? ⟨X, 1, none⟩ = some v ∧ W.cell? ⟨V, n, none⟩ = some d ∧ W.cell? ⟨Q, 0, none⟩ = some p
theorem FourT.kept {X V n Q : Nat} {u v d p : Value} {W W' : World} (h : FourT X V n Q u v d p W) (hb : Below W.heap.size W W') : FourT X V n Q u v d p W' := ⟨keep_cell h.1 hb, keep_cell h.2.1 hb, keep_cell h.2.2.1 hb, keep_cell h.2.2.2 hb⟩
theorem need_pos {c : CQ} (hc : c.right) : 1 ≤ needQ c := by
  have h := at_fits (c := c) (j := 0) (List.length_pos_iff.2 hc.some)
  omega

end Go.Proofs.YtmjpcmeinlkfbaaGreatDoor

/-
  A contract of the law TopOpened, for every input: it answers true and writes nothing that was there.
-/
namespace Go.Proofs.YtmjpcmeinlkfbaaGreatDoor
open Go.RowKit
set_option linter.unusedVariables false
attribute [local go_sem ↓] Go.wp_at_zero Go.wp_at_succ

/-- All that lies in memory behind Look. -/
structure TpO (w W : World) (n H X0 XX tb rb lb : Nat) (vr vv vl : Value) (uu : Int) (F G : Nat → Int) (apl al : Option Addr) (o : OQ) (mm m3 : OM) : Prop where
  bel : Below w.heap.size w W
  bo : Bx3 W X0 vr vv vl
  br : Bx3 W XX (.slice (some ⟨rb, 0, none⟩) n n) (.int .u64 uu) (.slice (some ⟨lb, 0, none⟩) H H)
  tab : Row W tb 0 (2 * H) F
  pl : IRowP W apl H fun j => ((id j : Nat) : Int)
  op : OpRow W al o mm
  rt : OpRow W (some ⟨lb, 0, none⟩) (rightO F G n H id) m3
theorem TpO.next {w W W' : World} {n H X0 XX tb rb lb : Nat} {vr vv vl : Value} {uu : Int} {F G : Nat → Int} {apl al : Option Addr} {o : OQ} {mm m3 : OM} (h : TpO w W n H X0 XX tb rb lb vr vv vl uu F G apl al o mm m3) (hH : 1 ≤ H) (hb : Below W.heap.size W W') : TpO w W' n H X0 XX tb rb lb vr vv vl uu F G apl al o mm m3 :=
  ⟨h.bel.trans (hb.mono h.bel.size), h.bo.kept hb, h.br.kept hb, h.tab.kept hb (h.tab.lt (by omega)), h.pl.kept hb, h.op.kept hb, h.rt.kept hb⟩
theorem look_all {n H : Nat} {root : Int} {G R : Nat → Int} {v : Int} {o : OQ} (h : lookB n root G H id R v o = true) : ∀ i, i < H → ∀ k, k < n → fitB n (rtQ root R) G v (o.P i) (o.T i) i k = true := by
  unfold lookB at h
  rw [Bool.and_eq_true] at h
  intro i hi k hk
  exact allB_iff.1 (allB_iff.1 h.2 i hi) k hk

theorem rt_cells {w : World} {lb n H : Nat} {F G : Nat → Int} {mm : OM} (n1 : 1 ≤ n) (ho : OpRow w (some ⟨lb, 0, none⟩) (rightO F G n H id) mm) {i : Nat} (hi : i < H) : ∃ bz oz, w.cell? ⟨lb, i * 2, none⟩ = some (.slice (some ⟨bz, oz, none⟩) n (mm.pc i)) ∧ ∀ j, j < n → w.cell? ⟨bz, oz + j * 2, none⟩ = some (.int .u64 (oP F G n i j 0)) ∧ w.cell? ⟨bz, oz + j * 2 + 1, none⟩ = some (.int .u64 (oP F G n i j 1)) := by
  obtain ⟨b, off, e, hc⟩ := ho (show 0 < H by omega)
  simp only [Option.some.injEq, Addr.mk.injEq] at e
  obtain ⟨rfl, rfl, _⟩ := e
  obtain ⟨d0, _, hq, _⟩ := hc i hi
  obtain ⟨bz, oz, e2, hq2⟩ := hq (show 0 < n by omega)
  rw [Nat.zero_add, Nat.mul_comm 2 i, e2] at d0
  refine ⟨bz, oz, d0, fun j hj => ?_⟩
  have h := hq2 j hj
  rw [Nat.mul_comm 2 j] at h
  exact h
/-- A pair is right, or all tell the same of its place. -/
def tldQ (F G : Nat → Int) (n : Nat) (o : OQ) (j i s : Nat) : Prop := nrm (o.P i j s) = oP F G n i j s ∨ telQ o (hfQ n j) j i s (o.P i j s)

set_option maxHeartbeats 8000000 in
set_option maxRecDepth 100000 in
theorem topened_any (ao bo ar al : Option Addr) (la ca lb cb nr cr N cl : Nat) (k vo : Int) (f g R : Nat → Int) (o : OQ) (mm : OM) (w : World) (ht : Tab w) (hp : PRow w ao la f) (hf : Nums f) (hq : PRow w bo lb g) (hg : Nums g) (k0 : -9223372036854775808 ≤ k) (k1 : k ≤ 9223372036854775807) (hR : PRow w ar nr R) (hRv : Nums R) (v0 : 0 ≤ vo) (v1 : vo ≤ 18446744073709551615) (hN : o.n = N) (ho : OpRow w al o mm) (hov : o.nums) :
    Calls Tryz.prog 4 #[.slice ao la ca, .slice bo lb cb, .int .i64 k, .agg #[.slice ar nr cr, .int .u64 vo, .slice al N cl]] w fun e w' => e = .returned (.bool true) ∧ Below w.heap.size w w' := by
  obtain ⟨r, hr⟩ : ∃ r : Nat, k % 3 = (r : Int) := ⟨(k % 3).toNat, by omega⟩
  have r3 : r ≤ 2 := by omega
  obtain ⟨n, hn⟩ : ∃ n, n = 1 + r := ⟨_, rfl⟩
  have n1 : 1 ≤ n := by omega
  have n4 : n ≤ 3 := by omega
  obtain ⟨H, hH⟩ : ∃ H, hfQ n 0 = H := ⟨_, rfl⟩
  have hN2 : 2 * H = 2 ^ n := by rw [← hH]; exact hfQ_all (by omega)
  have hH1 : 1 ≤ H := by rw [← hH]; exact hfQ_pos n 0
  have hHr : H = 2 ^ r := by rw [← hH, hn]; unfold hfQ; rw [show 1 + r - 1 - 0 = r from by omega]
  have hH2 : H ≤ 4 := by rw [← hH]; unfold hfQ; exact Nat.pow_le_pow_right (j := 2) (by omega) (by omega)
  have HSH : Hid (wrap64 (2 * 2 ^ r) = ((2 * H : Nat) : Int)) := hid (by rw [show (2 : Int) * 2 ^ r = ((2 * H : Nat) : Int) from by rw [hHr]; simp]; exact IntWalk.wrap64_in _ (by omega))
  clear hHr
  have HOD := hid (fun W (h : Tab W) => said_any W h)
  have HR4 := hid (fun W => (by have := rest_any k 3 W k0 k1 (by omega) (by omega); rw [hr] at this; exact this : Calls Tryz.prog 9 #[.int .i64 k, .int .i64 3] W fun e w' => e = .returned (.int .i64 (r : Int)) ∧ w' = W))
  have HTA := hid (fun W (h : PRow W ao la f) => sized_any ao la ca (2 * H) f W (by omega) h)
  have HVA := hid (fun b W => rvars_ok (some ⟨b, 0, none⟩) n (2 * H) (2 * H) W (by omega) hN2)
  have HPO := hid (fun W (h : PRow W bo lb g) => sized_any bo lb cb n g W (by omega) h)
  have hvf := Nums_pad hf la
  have hvg := Nums_pad hg lb
  obtain ⟨F, hF⟩ : ∃ F, padF la f = F := ⟨_, rfl⟩
  obtain ⟨G, hG⟩ : ∃ G, padF lb g = G := ⟨_, rfl⟩
  rw [hF] at hvf HTA
  rw [hG] at hvg HPO
  have HRO := hid (fun b W (h : Row W b 0 (2 * H) F) (hT : Tab W) => troot_any n (2 * H) b 0 (2 * H) F W (by omega) hN2 hT h hvf)
  have hpk : plOk H n (fun j => ((id j : Nat) : Int)) := plOk_of (by omega) (fun j hj => by rw [hH]; exact hj)
  have HOP := hid (fun tb qb (apl : Option Addr) (cpl : Nat) W (h : Row W tb 0 (2 * H) F) (hT : Tab W) (hpq : PRow W (some ⟨qb, 0, none⟩) n G) (hii : IRowP W apl H fun j => ((id j : Nat) : Int)) => open_ok n (2 * H) tb 0 (2 * H) n H cpl (some ⟨qb, 0, none⟩) apl F G id W n1 (by omega) hN2 hT h hvf hpq hvg hii hpk)
  have hrt := rootQ_rng n F
  have HLK := hid (fun qb (apl : Option Addr) (cpl : Nat) W (hpq : PRow W (some ⟨qb, 0, none⟩) n G) (hii : IRowP W apl H fun j => ((id j : Nat) : Int)) (hRw : PRow W ar nr R) (hoW : OpRow W al o mm) => (by
    refine (look_any n H n cpl nr cr N cl (some ⟨qb, 0, none⟩) apl ar al (rootQ n F) vo G (fun j => ((id j : Nat) : Int)) R o mm W (by unfold maxLen; omega) (by unfold maxLen; omega) hN (by omega) (by omega) v0 v1 hpq hvg hii hRw hRv hoW hov).mono ?_
    rintro e w' ⟨r, x, rfl, hout, hb⟩
    refine ⟨r, x, rfl, ?_, hb⟩
    rcases hout with ⟨h, _⟩ | ⟨_, _, h1, h2⟩ | ⟨_, h, hr1, hx⟩
    · exact absurd ⟨n1, by omega, hpk⟩ h
    · exact .inl ⟨h1, h2⟩
    · have e : (fun j => ((fun j => ((id j : Nat) : Int)) j).toNat) = id := by funext j; simp
      rw [e] at hr1
      exact .inr ⟨h.1.symm, h.2.1.symm.trans hN, fun i hi => (h.2.2 i hi).1, hx, fun hr2 => by
        rw [hr1] at hr2
        exact look_all hr2⟩ :
    Calls Tryz.prog 30 #[.int .u64 (rootQ n F), .slice (some ⟨qb, 0, none⟩) n n, .slice apl H cpl, .agg #[.slice ar nr cr, .int .u64 vo, .slice al N cl]] W fun e w' => ∃ (r : Bool) (x : Int), e = .returned (.tuple #[.bool r, .int .i64 x]) ∧ ((r = false ∧ x = 4) ∨ (n = nr ∧ H = N ∧ (∀ i, i < o.n → o.np i = n) ∧ x = 0 ∧ (r = true → ∀ i, i < H → ∀ k, k < n → fitB n (rtQ (rootQ n F) R) G vo (o.P i) (o.T i) i k = true))) ∧ Below W.heap.size W w'))
  have HFIN : Hid ((∀ i, i < H → ∀ k, k < n → fitB n (rtQ (rootQ n F) R) G vo (o.P i) (o.T i) i k = true) → (∀ i, i < H → ∀ s, s < 2 → nrm (o.P i 0 s) = nrm (F (i + s * H))) → (∀ j, 1 ≤ j → j < n → ∀ i, i < H → ∀ s, s < 2 → nrm (o.P i j s) = oP F G n i j s ∨ ∀ k, k < H → ∀ u, u < 2 → k % hfQ n j + u * hfQ n j = i % hfQ n j + s * hfQ n j → nrm (o.P k j u) = nrm (o.P i j s)) → nrm vo = fdQ F G n n 0) := hid (fun h h0 h1 => opened_tells F G n (rtQ (rootQ n F) R) vo o.P o.T n1 (by rw [hH]; exact h) (by rw [hH]; exact h0) (by rw [hH]; exact h1))
  obtain ⟨root, hroot⟩ : ∃ x, rootQ n F = x := ⟨_, rfl⟩
  rw [hroot] at HRO HLK hrt HFIN
  obtain ⟨vv, hvv⟩ : ∃ x, fdQ F G n n 0 = x := ⟨_, rfl⟩
  rw [hvv] at HOP HFIN
  have HNV := hid (fun W => norm_any vo W v0 v1)
  have HT := hid ht
  have HP := hid hp
  have HQ := hid hq
  have HRR := hid hR
  have HOA := hid ho
  have HNE := hid hN
  have HOV := hid hov
  have HVF := hid hvf
  obtain ⟨i0, hi0, hz0, hz1, hz2⟩ := info_parts Tryz.infoJ
  have HIN := hid (And.intro hi0 (And.intro hz0 (And.intro hz1 hz2)))
  clear hN2 hn hr hH hroot hvv hF hG hp hq hf hg hvf hvg hi0 hz0 hz1 hz2 ht k0 k1 hR hRv hN ho hov hpk
  have b0 := bel_new w (.cells #[.slice ar nr cr, .int .u64 vo, .slice al N cl] 42)
  have HXO := hid (Bx3.new w (.slice ar nr cr) (.int .u64 vo) (.slice al N cl) 42)
  have HB := hid b0
  go_enter Tryz.func4, Tryz.ntmps4
  go_wp2_with fail
  obtain ⟨W0, hW0⟩ : ∃ W0, w.alloc (.cells #[.slice ar nr cr, .int .u64 vo, .slice al N cl] 42) = W0 := ⟨_, rfl⟩
  obtain ⟨X0, hX0⟩ : ∃ X0, w.heap.size = X0 := ⟨_, rfl⟩
  rw [hW0] at HB HXO b0 ⊢
  rw [hX0] at HXO ⊢
  clear hW0 b0
  have HX0 := hid hX0
  clear hX0
  refine (HOD.out W0 (HT.out.kept HB.out HT.out.1)).mono ?_
  rintro e w1 ⟨rfl, hb⟩
  replace HXO := hid (HXO.out.kept hb)
  replace HB := hid (HB.out.trans (hb.mono HB.out.size))
  clear hb HOD
  go_wp2_with fail
  refine (HR4.out _).mono ?_
  rintro e w2 ⟨rfl, hw⟩
  obtain rfl := hw.symm
  go_wp2_with fail
  rw [HSH.out]
  refine (HTA.out _ (HP.out.kept HB.out)).mono ?_
  rintro e w3 ⟨rfl, hm⟩
  have HM : Hid (Row w3 w1.heap.size 0 (2 * H) F) := hid hm.row
  replace HXO := hid (HXO.out.kept hm.below)
  replace HB := hid (HB.out.trans (hm.below.mono HB.out.size))
  obtain ⟨tb, htb⟩ : ∃ x, w1.heap.size = x := ⟨_, rfl⟩
  rw [htb] at HM ⊢
  clear hm htb
  go_wp2_with fail
  refine (HVA.out _ _).mono ?_
  rintro e w4 ⟨rfl, hw⟩
  obtain rfl := hw.symm
  go_wp2_with fail
  refine (HPO.out _ (HQ.out.kept HB.out)).mono ?_
  rintro e w5 ⟨rfl, hm⟩
  replace HM := hid (HM.out.kept hm.below (HM.out.lt (by omega)))
  have HG : Hid (Row w5 w3.heap.size 0 n G) := hid hm.row
  replace HXO := hid (HXO.out.kept hm.below)
  replace HB := hid (HB.out.trans (hm.below.mono HB.out.size))
  obtain ⟨qb, hqb⟩ : ∃ x, w3.heap.size = x := ⟨_, rfl⟩
  rw [hqb] at HG ⊢
  clear hm hqb
  go_wp2_with fail
  obtain ⟨E, hE⟩ : ∃ E, w5.heap.size = E := ⟨_, rfl⟩
  have HE := hid hE
  clear hE
  go_loopg [12, 42] H (fun q x12 x41 wr => ∃ (t : Nat) (v : Value), t ≤ H ∧ q = H - t ∧ x12 = v ∧ x41 = .int .i64 (t : Int) ∧ Hid (wr.ownsRow E 3 1 v t (plV id t)) ∧ Hid (Below E w5 wr))
  case atStart => exact ⟨0, _, by omega, rfl, rfl, rfl, hid (World.ownsRow_nil w5 E 3 1), hid (Below.refl _ _)⟩
  case round =>
    obtain ⟨t, v, htm, rfl, rfl, rfl, HO, HW⟩ := hrel
    by_cases hlt : t < H
    · have hs := HW.out.size
      rw [HE.out] at hs
      have t0 : (0 : Int) ≤ (t : Int) := by omega
      have t1 : (t : Int) < (H : Int) := by omega
      go_wp2_with ((at_builtin; refine wpList_append_lies _ rfl _ _ 45 rfl E 3 i0 (.int .i64 0) 1 8 Tryz.underlying45 HIN.out.1 HIN.out.2.1 HIN.out.2.2.1 HIN.out.2.2.2 rfl (by decide) _ t (plV id t) rfl (World.ownsRow.alloc HO.out _) ⟨wr.heap.size, 0, none⟩ 1 1 [.int .i64 ((id t : Nat) : Int)] rfl rfl (inews wr _ _) (ione _) (by omega) (by unfold maxLen; omega) (by omega) (by simp; omega) (wr.heap.size + 1) (by simp) ?_))
      intro g6 c6 w6 hown6 hgrow6 hat6 hlt6
      have HN6 := hid (pl_next HW.out (by rw [HE.out]; exact Nat.le_refl _) HO.out rfl hown6 hgrow6)
      clear hown6 hgrow6 hat6 hlt6
      go_wp2_with fail
      go_roundg (H - (t + 1))
      case measure => go_light; omega
      case rel => exact ⟨t + 1, _, by omega, rfl, rfl, by go_num, hid HN6.out.1, hid HN6.out.2⟩
    · have e : H = t := by omega
      subst e
      obtain ⟨apl, cpl, rfl, hcl, hil⟩ := pl_own HO.out
      have hbE : Below w5.heap.size w5 wr := by rw [HE.out]; exact HW.out
      replace HXO := hid (HXO.out.kept hbE)
      replace HB := hid (HB.out.trans (hbE.mono HB.out.size))
      have HM2 := hid (HM.out.kept hbE (HM.out.lt (by omega)))
      have HG2 := hid (HG.out.kept hbE (HG.out.lt (by omega)))
      have HI2 := hid hil
      clear HO hil HM HG HW hbE
      go_wp2_with fail
      refine (HRO.out _ _ HM2.out (HT.out.kept HB.out HT.out.1)).mono ?_
      rintro e w6 ⟨rfl, hb⟩
      replace HXO := hid (HXO.out.kept hb)
      replace HM2 := hid (HM2.out.kept hb (HM2.out.lt (by omega)))
      replace HG2 := hid (HG2.out.kept hb (HG2.out.lt (by omega)))
      replace HI2 := hid (HI2.out.kept hb)
      replace HB := hid (HB.out.trans (hb.mono HB.out.size))
      clear hb
      go_wp2_with fail
      refine (HOP.out _ _ _ _ _ HM2.out (HT.out.kept HB.out HT.out.1) (PRow.of HG2.out) HI2.out).mono ?_
      rintro e w7 ⟨rb, lb', m3, rfl, hrow, hop, hb⟩
      have b0 := bel_new w7 (.cells #[.slice (some ⟨rb, 0, none⟩) n n, .int .u64 vv, .slice (some ⟨lb', 0, none⟩) H H] 42)
      have HX := hid (Bx3.new w7 (.slice (some ⟨rb, 0, none⟩) n n) (.int .u64 vv) (.slice (some ⟨lb', 0, none⟩) H H) 42)
      have hbb := hb.trans (b0.mono hb.size)
      replace HXO := hid (HXO.out.kept hbb)
      replace HM2 := hid (HM2.out.kept hbb (HM2.out.lt (by omega)))
      replace HG2 := hid (HG2.out.kept hbb (HG2.out.lt (by omega)))
      replace HI2 := hid (HI2.out.kept hbb)
      replace HB := hid (HB.out.trans (hbb.mono HB.out.size))
      have HO3 := hid (hop.kept b0)
      clear b0 hbb hb hrow hop
      have x0 := HXO.out.c0
      have x1 := HXO.out.c1
      have x2 := HXO.out.c2
      go_wp2_with fail
      obtain ⟨W7, hW7⟩ : ∃ W7, w7.alloc (.cells #[.slice (some ⟨rb, 0, none⟩) n n, .int .u64 vv, .slice (some ⟨lb', 0, none⟩) H H] 42) = W7 := ⟨_, rfl⟩
      obtain ⟨XX, hXX⟩ : ∃ XX, w7.heap.size = XX := ⟨_, rfl⟩
      rw [hW7] at HXO HM2 HG2 HI2 HB HO3 HX x0 x1 x2 ⊢
      rw [hXX] at HX ⊢
      clear hW7 hXX x0 x1 x2
      refine (HLK.out _ _ _ _ (PRow.of HG2.out) HI2.out (HRR.out.kept HB.out) (HOA.out.kept HB.out)).mono ?_
      rintro e w8 ⟨rr, xx, rfl, hout, hb⟩
      have HS : Hid (TpO w w8 n H X0 XX tb rb lb' (.slice ar nr cr) (.int .u64 vo) (.slice al N cl) vv F G apl al o mm m3) := hid ((⟨HB.out, HXO.out, HX.out, HM2.out, HI2.out, HOA.out.kept HB.out, HO3.out⟩ : TpO w W7 n H X0 XX tb rb lb' (.slice ar nr cr) (.int .u64 vo) (.slice al N cl) vv F G apl al o mm m3).next hH1 hb)
      clear HXO HM2 HG2 HI2 HB HO3 HX hb HLK HOP HRO HRR HOA HP HQ HT HPO HTA HVA HR4
      have x1 := HS.out.bo.c1
      have y1 := HS.out.br.c1
      rcases hout with ⟨rfl, rfl⟩ | ⟨rfl, rfl, hform, rfl, hlook⟩
      · go_wp2_with fail
        go_quiet (fail)
        go_wp2_with fail
        go_ret
        exact ⟨rfl, Below.drewN' HS.out.bel _⟩
      · cases rr
        · go_wp2_with fail
          go_quiet (fail)
          go_wp2_with fail
          go_ret
          exact ⟨rfl, Below.drewN' HS.out.bel _⟩
        · have HLO := hid (hlook rfl)
          have HFO := hid hform
          clear hlook hform
          obtain ⟨nv, hnv⟩ : ∃ x, nrm vo = x := ⟨_, rfl⟩
          rw [hnv] at HNV HFIN
          clear hnv
          by_cases heq : nv = vv
          · subst heq
            go_wp2_with fail
            go_quiet (first | (go_at_call 31; exact Calls.quiet_of_same (HNV.out _)))
            go_wp2_with fail
            go_ret
            exact ⟨by simp, Below.drewN' HS.out.bel _⟩
          · have he2 : (nv == vv) = false := beq_eq_false_iff_ne.2 heq
            go_wp2_with fail
            go_quiet (first | (go_at_call 31; exact Calls.quiet_of_same (HNV.out _)))
            replace HS := hid (HS.out.next hH1 ⟨rfl, rfl, rfl, Nat.le_refl _, fun _ _ => rfl⟩ : TpO w (w8.drewN nq) _ _ _ _ _ _ _ _ _ _ _ _ _ _ _ _ _ _)
            generalize w8.drewN nq = W8 at HS ⊢
            clear x1 y1
            have x2 := HS.out.bo.c2
            go_wp2_with fail
            clear x2
            go_loopg [93] H (fun q y wr => ∃ i : Nat, i ≤ H ∧ q = H - i ∧ y = .int .i64 (i : Int) ∧ Hid (∀ i', i' < i → ∀ s, s < 2 → nrm (o.P i' 0 s) = nrm (F (i' + s * H))) ∧ Hid (TpO w wr n H X0 XX tb rb lb' (.slice ar n cr) (.int .u64 vo) (.slice al H cl) vv F G apl al o mm m3))
            case atStart => exact ⟨0, by omega, rfl, rfl, hid (fun i' h => absurd h (by omega)), HS⟩
            case round =>
              clear HS
              obtain ⟨i, hiH, rfl, rfl, HA, HS⟩ := hrel
              by_cases hlt : i < H
              · obtain ⟨bo, oo, eo, hrow⟩ := HS.out.op (by rw [HNE.out]; omega)
                obtain ⟨d0, d1, hq, _⟩ := hrow i (by rw [HNE.out]; exact hlt)
                rw [HFO.out i (by rw [HNE.out]; exact hlt)] at d0 hq
                obtain ⟨bq, oq, eq1, hq1⟩ := hq (by omega)
                obtain ⟨bp, op, ep, hpr⟩ := HS.out.pl (by omega)
                have ci := hpr i hlt
                obtain ⟨u0, u1⟩ := hq1 0 (by omega)
                rw [Nat.mul_comm 2 i] at d0 d1
                rw [eq1] at d0
                have HEO := hid eo
                have HEP := hid ep
                have il : (i : Int) < (H : Int) := by omega
                clear hrow hq hq1 hpr eq1
                subst eo
                subst ep
                go_wp2_with fail
                have b0 := bel_new wr (.cells #[.slice (some ⟨bq, oq, none⟩) n (mm.pc i), .slice (mm.ta i) (o.nt i) (mm.tc i)] 50)
                have e0 : (wr.alloc (.cells #[.slice (some ⟨bq, oq, none⟩) n (mm.pc i), .slice (mm.ta i) (o.nt i) (mm.tc i)] 50)).cell? ⟨wr.heap.size, 0, none⟩ = some (.slice (some ⟨bq, oq, none⟩) n (mm.pc i)) := by rw [World.cell?_alloc_new]; rfl
                have HS5 := hid (HS.out.next hH1 b0)
                have HC := hid (And.intro e0 (And.intro (keepC b0 ci) (And.intro (keepC b0 u0) (keepC b0 u1))))
                generalize wr.alloc (.cells #[.slice (some ⟨bq, oq, none⟩) n (mm.pc i), .slice (mm.ta i) (o.nt i) (mm.tc i)] 50) = W5 at HS5 HC ⊢
                generalize wr.heap.size = X at HC ⊢
                clear e0 ci u0 u1 d0 d1 b0
                go_loopg [98] 2 (fun q y wr => ∃ s : Nat, s ≤ 2 ∧ q = 2 - s ∧ y = .int .i64 (s : Int) ∧ Hid (∀ s', s' < s → nrm (o.P i 0 s') = nrm (F (i + s' * H))) ∧ Hid (Below W5.heap.size W5 wr))
                case atStart => exact ⟨0, by omega, rfl, rfl, hid (fun i' h => absurd h (by omega)), hid (Below.refl _ _)⟩
                case round =>
                  obtain ⟨s, hs2, rfl, rfl, HU, HW⟩ := hrel
                  by_cases hsl : s < 2
                  · obtain ⟨e0, ci, u0, u1⟩ := HC.out
                    replace e0 := keepC HW.out e0
                    replace ci := keepC HW.out ci
                    have cu : wr.cell? ⟨bq, oq + s, none⟩ = some (.int .u64 (o.P i 0 s)) := by
                      rcases (show s = 0 ∨ s = 1 by omega) with h | h <;> subst h
                      · exact keepC HW.out u0
                      · exact keepC HW.out u1
                    obtain ⟨sH, hsH⟩ : ∃ q, s * H = q := ⟨_, rfl⟩
                    have hmul : (s : Int) * (2 * (H : Int)) = 2 * (sH : Int) := by rw [← hsH]; push_cast; rw [Int.mul_left_comm]
                    have hsl2 : sH ≤ H := by rw [← hsH]; rcases (show s = 0 ∨ s = 1 by omega) with h | h <;> subst h <;> omega
                    obtain ⟨at', hat⟩ : ∃ q, i + sH = q := ⟨_, rfl⟩
                    have hai : (i : Int) + (sH : Int) = (at' : Int) := by omega
                    have hal : at' < 2 * H := by omega
                    have hal2 : (at' : Int) < 2 * (H : Int) := by omega
                    have ct := HS5.out.tab.kept HW.out (HS5.out.tab.lt (by omega)) at' hal
                    rw [Nat.zero_add] at ct
                    have pr := HOV.out i 0 s
                    have fr := HVF.out at'
                    have HSQ := hid hsH
                    have HAQ := hid hat
                    obtain ⟨pu, hpu⟩ : ∃ pu, o.P i 0 s = pu := ⟨_, rfl⟩
                    obtain ⟨ft, hft⟩ : ∃ ft, F at' = ft := ⟨_, rfl⟩
                    rw [hpu] at cu pr
                    rw [hft] at ct fr
                    have HPU := hid hpu
                    have HFT := hid hft
                    obtain ⟨pr0, pr1, _⟩ := pr
                    obtain ⟨fr0, fr1⟩ := fr
                    have sl : (s : Int) < 2 := by omega
                    have s0 : (0 : Int) ≤ (s : Int) := by omega
                    have n0 : (0 : Int) < (n : Int) := by omega
                    have i0' : (0 : Int) ≤ (i : Int) := by omega
                    obtain ⟨b, hb⟩ : ∃ b, (nrm pu != nrm ft) = b := ⟨_, rfl⟩
                    have HBV := hid hb
                    clear hpu hft hsH hat u0 u1
                    go_wp2_with fail
                    go_quiet (first | (go_at_call 31; exact Calls.quiet_of_same (norm_any _ _ (by omega) (by omega))))
                    have HBQ : Hid (Below W5.heap.size W5 (wr.drewN nq)) := hid (HW.out.trans ⟨rfl, rfl, rfl, Nat.le_refl _, fun _ _ => rfl⟩)
                    generalize wr.drewN nq = W6 at HBQ ⊢
                    cases b
                    · have HEQ : Hid (nrm pu = nrm ft) := hid (by have := HBV.out; simpa using this)
                      go_wp2_with fail
                      go_roundg (2 - (s + 1))
                      case measure => go_light; omega
                      case rel => exact ⟨s + 1, by omega, rfl, by go_num, hid (fun s' hs' => by
                        rcases (show s' < s ∨ s' = s by omega) with h | h
                        · exact HU.out s' h
                        · subst h; rw [HPU.out, HSQ.out, HAQ.out, HFT.out, HEQ.out]), HBQ⟩
                    · go_wp2_with fail
                      go_ret
                      exact ⟨rfl, HS5.out.bel.trans (HBQ.out.mono HS5.out.bel.size)⟩
                  · have e : s = 2 := by omega
                    subst e
                    have HS6 := hid (HS5.out.next hH1 HW.out)
                    go_wp2_with fail
                    go_roundg (H - (i + 1))
                    case measure => go_light; omega
                    case rel => exact ⟨i + 1, by omega, rfl, by go_num, hid (fun i' hi' s hs2 => by
                      rcases (show i' < i ∨ i' = i by omega) with h | h
                      · exact HA.out i' h s hs2
                      · subst h; exact HU.out s hs2), HS6⟩
              · have e : H = i := by omega
                subst e
                go_wp2_with fail
                go_loopg [23] (n - 1) (fun q y wr => ∃ j : Nat, 1 ≤ j ∧ j ≤ n ∧ q = n - j ∧ y = .int .i64 (j : Int) ∧ Hid (∀ j', 1 ≤ j' → j' < j → ∀ i, i < H → ∀ s, s < 2 → tldQ F G n o j' i s) ∧ Hid (TpO w wr n H X0 XX tb rb lb' (.slice ar n cr) (.int .u64 vo) (.slice al H cl) vv F G apl al o mm m3))
                case atStart => exact ⟨1, by omega, by omega, rfl, rfl, hid (fun j' h1 h2 => absurd h2 (by omega)), HS⟩
                case round =>
                  clear HS
                  obtain ⟨j, hj1, hjn, rfl, rfl, HJ, HS⟩ := hrel
                  by_cases hjl : j < n
                  · have x2 := HS.out.bo.c2
                    have jl : (j : Int) < (n : Int) := by omega
                    go_wp2_with fail
                    clear x2
                    go_loopg [134] H (fun q y wr => ∃ i : Nat, i ≤ H ∧ q = H - i ∧ y = .int .i64 (i : Int) ∧ Hid (∀ i', i' < i → ∀ s, s < 2 → tldQ F G n o j i' s) ∧ Hid (TpO w wr n H X0 XX tb rb lb' (.slice ar n cr) (.int .u64 vo) (.slice al H cl) vv F G apl al o mm m3))
                    case atStart => exact ⟨0, by omega, rfl, rfl, hid (fun i' h => absurd h (by omega)), HS⟩
                    case round =>
                      clear HS
                      obtain ⟨i, hiH, rfl, rfl, HI3, HS⟩ := hrel
                      by_cases hil : i < H
                      · obtain ⟨bo, oo, eo, hrow⟩ := HS.out.op (by rw [HNE.out]; omega)
                        obtain ⟨d0, d1, hq, _⟩ := hrow i (by rw [HNE.out]; exact hil)
                        rw [HFO.out i (by rw [HNE.out]; exact hil)] at d0 hq
                        obtain ⟨bq, oq, eq1, hq1⟩ := hq (by omega)
                        obtain ⟨u0, u1⟩ := hq1 j hjl
                        rw [Nat.mul_comm 2 i] at d0 d1
                        rw [Nat.mul_comm 2 j] at u0 u1
                        rw [eq1] at d0
                        obtain ⟨bz, oz, r0, rz⟩ := rt_cells n1 HS.out.rt hil
                        obtain ⟨z0, z1⟩ := rz j hjl
                        have il : (i : Int) < (H : Int) := by omega
                        clear hrow hq hq1 eq1 rz
                        subst eo
                        go_wp2_with fail
                        have b0 := bel_new wr (.cells #[.slice (some ⟨bq, oq, none⟩) n (mm.pc i), .slice (mm.ta i) (o.nt i) (mm.tc i)] 50)
                        have e0 : (wr.alloc (.cells #[.slice (some ⟨bq, oq, none⟩) n (mm.pc i), .slice (mm.ta i) (o.nt i) (mm.tc i)] 50)).cell? ⟨wr.heap.size, 0, none⟩ = some (.slice (some ⟨bq, oq, none⟩) n (mm.pc i)) := by rw [World.cell?_alloc_new]; rfl
                        have HS5 := hid (HS.out.next hH1 b0)
                        have HC := hid (And.intro e0 (And.intro (keepC b0 r0) (And.intro (And.intro (keepC b0 u0) (keepC b0 u1)) (And.intro (keepC b0 z0) (keepC b0 z1)))))
                        generalize wr.alloc (.cells #[.slice (some ⟨bq, oq, none⟩) n (mm.pc i), .slice (mm.ta i) (o.nt i) (mm.tc i)] 50) = W5 at HS5 HC ⊢
                        generalize wr.heap.size = X at HC ⊢
                        clear e0 r0 z0 z1 u0 u1 d0 d1 b0
                        go_loopg [139] 2 (fun q y wr => ∃ s : Nat, s ≤ 2 ∧ q = 2 - s ∧ y = .int .i64 (s : Int) ∧ Hid (∀ s', s' < s → tldQ F G n o j i s') ∧ Hid (Below W5.heap.size W5 wr))
                        case atStart => exact ⟨0, by omega, rfl, rfl, hid (fun i' h => absurd h (by omega)), hid (Below.refl _ _)⟩
                        case round =>
                          obtain ⟨s, hs2, rfl, rfl, HU, HW⟩ := hrel
                          by_cases hsl : s < 2
                          · obtain ⟨e0, r0, ⟨u0, u1⟩, z0, z1⟩ := HC.out
                            replace e0 := keepC HW.out e0
                            replace r0 := keepC HW.out r0
                            have cu : wr.cell? ⟨bq, oq + j * 2 + s, none⟩ = some (.int .u64 (o.P i j s)) := by
                              rcases (show s = 0 ∨ s = 1 by omega) with h | h <;> subst h
                              · exact keepC HW.out u0
                              · exact keepC HW.out u1
                            have cz : wr.cell? ⟨bz, oz + j * 2 + s, none⟩ = some (.int .u64 (oP F G n i j s)) := by
                              rcases (show s = 0 ∨ s = 1 by omega) with h | h <;> subst h
                              · exact keepC HW.out z0
                              · exact keepC HW.out z1
                            have HS6 := hid (HS5.out.next hH1 HW.out)
                            have y2 := HS6.out.br.c2
                            have q0 := HS6.out.bo.c0
                            have q1 := HS6.out.bo.c1
                            have q2 := HS6.out.bo.c2
                            have pr := HOV.out i j s
                            have HTL := hid (fun W (hb : Below wr.heap.size wr W) => tells_is n H j s i cr cl cpl ar (some ⟨bo, oo, none⟩) apl vo (o.P i j s) o mm W (by omega) hjl HNE.out (by omega) hil hsl pr.1 pr.2.1 (HS6.out.pl.kept hb) (HS6.out.op.kept hb) HOV.out HFO.out)
                            obtain ⟨tl, htl⟩ : ∃ tl, telB o (hfQ n j) j i s (o.P i j s) = tl := ⟨_, rfl⟩
                            rw [htl] at HTL
                            have HTQ := hid htl
                            obtain ⟨pu, hpu⟩ : ∃ pu, o.P i j s = pu := ⟨_, rfl⟩
                            obtain ⟨pz, hpz⟩ : ∃ ft, oP F G n i j s = ft := ⟨_, rfl⟩
                            rw [hpu] at cu pr HTL
                            rw [hpz] at cz
                            have HPU := hid hpu
                            have HPZ := hid hpz
                            obtain ⟨pr0, pr1, _⟩ := pr
                            have HNP := hid (fun W => norm_any pu W pr0 pr1)
                            obtain ⟨np, hnp⟩ : ∃ x, nrm pu = x := ⟨_, rfl⟩
                            rw [hnp] at HNP
                            have HNQ := hid hnp
                            have sl : (s : Int) < 2 := by omega
                            have s0 : (0 : Int) ≤ (s : Int) := by omega
                            have j0 : (0 : Int) ≤ (j : Int) := by omega
                            have i0' : (0 : Int) ≤ (i : Int) := by omega
                            clear hpu hpz htl u0 u1 z0 z1 hnp
                            by_cases heq2 : np = pz
                            · have he3 : (np != pz) = false := by rw [heq2]; simp
                              have HE3 := hid heq2
                              clear heq2
                              go_wp2_with fail
                              go_quiet (first | (go_at_call 31; exact Calls.quiet_of_same (HNP.out _)))
                              have HBQ : Hid (Below W5.heap.size W5 (wr.drewN nq)) := hid (HW.out.trans ⟨rfl, rfl, rfl, Nat.le_refl _, fun _ _ => rfl⟩)
                              generalize wr.drewN nq = W6 at HBQ ⊢
                              go_wp2_with fail
                              go_roundg (2 - (s + 1))
                              case measure => go_light; omega
                              case rel => exact ⟨s + 1, by omega, rfl, by go_num, hid (fun s' hs' => by
                                rcases (show s' < s ∨ s' = s by omega) with h | h
                                · exact HU.out s' h
                                · subst h; exact .inl (by rw [HPU.out, HPZ.out, HNQ.out, HE3.out])), HBQ⟩
                            · have he3 : (np != pz) = true := by simpa using heq2
                              obtain ⟨SS, hSS⟩ : ∃ SS : World → Prop, SS = fun _ => True := ⟨_, rfl⟩
                              have HSS : Hid (∀ W, SS W) := hid (fun W => by rw [hSS]; trivial)
                              clear hSS
                              have k0 : ∀ t : QT wr SS, t.w.cell? ⟨X, 0, none⟩ = some (.slice (some ⟨bq, oq, none⟩) n (mm.pc i)) := fun t => keepC t.b e0
                              have k1 : ∀ t : QT wr SS, t.w.cell? ⟨lb', i * 2, none⟩ = some (.slice (some ⟨bz, oz, none⟩) n (m3.pc i)) := fun t => keepC t.b r0
                              have k2 : ∀ t : QT wr SS, t.w.cell? ⟨bq, oq + j * 2 + s, none⟩ = some (.int .u64 pu) := fun t => keepC t.b cu
                              have k3 : ∀ t : QT wr SS, t.w.cell? ⟨bz, oz + j * 2 + s, none⟩ = some (.int .u64 pz) := fun t => keepC t.b cz
                              have k4 : ∀ t : QT wr SS, t.w.cell? ⟨XX, 2, none⟩ = some (.slice (some ⟨lb', 0, none⟩) H H) := fun t => keepC t.b y2
                              have k5 : ∀ t : QT wr SS, t.w.cell? ⟨X0, 0, none⟩ = some (.slice ar n cr) := fun t => keepC t.b q0
                              have k6 : ∀ t : QT wr SS, t.w.cell? ⟨X0, 1, none⟩ = some (.int .u64 vo) := fun t => keepC t.b q1
                              have k7 : ∀ t : QT wr SS, t.w.cell? ⟨X0, 2, none⟩ = some (.slice (some ⟨bo, oo, none⟩) H cl) := fun t => keepC t.b q2
                              have HBL : Hid (∀ t : QT wr SS, Below wr.heap.size wr t.w) := hid (fun t => t.b)
                              clear e0 r0 cu cz y2 q0 q1 q2
                              go_wp2_with fail
                              refine wp_region_grown SS (by kernel_rfl) (by kernel_rfl) (HSS.out _) ?_
                              haveI : Nonempty (QT wr SS) := QT.ne (HSS.out _)
                              repeat (first | go_big_quiet_skip | (go_big_quiet_want; go_big_quiet_op; first | go_big_quiet_on | go_big_quiet_call (first | (go_at_call 31; exact Calls.grown_same (HNP.out _)) | (go_at_call 32; exact Calls.grown_of (HTL.out _ (HBL.out _)) (fun _ _ => HSS.out _)))))
                              refine wpQuiet_nil ?_
                              intro _ hw'
                              obtain ⟨tq, hw''⟩ := hw'
                              subst hw''
                              have HBQ : Hid (Below W5.heap.size W5 tq.w) := hid (HW.out.trans (tq.b.mono HW.out.size))
                              generalize tq.w = W6 at HBQ ⊢
                              cases tl
                              · go_wp2_with fail
                                go_roundg (2 - (s + 1))
                                case measure => go_light; omega
                                case rel => exact ⟨s + 1, by omega, rfl, by go_num, hid (fun s' hs' => by
                                  rcases (show s' < s ∨ s' = s by omega) with h | h
                                  · exact HU.out s' h
                                  · subst h; exact .inr (telB_tell HTQ.out)), HBQ⟩
                              · go_wp2_with fail
                                go_ret
                                exact ⟨rfl, HS5.out.bel.trans (HBQ.out.mono HS5.out.bel.size)⟩
                          · have e : s = 2 := by omega
                            subst e
                            have HS6 := hid (HS5.out.next hH1 HW.out)
                            go_wp2_with fail
                            go_roundg (H - (i + 1))
                            case measure => go_light; omega
                            case rel => exact ⟨i + 1, by omega, rfl, by go_num, hid (fun i' hi' s hs2 => by
                              rcases (show i' < i ∨ i' = i by omega) with h | h
                              · exact HI3.out i' h s hs2
                              · subst h; exact HU.out s hs2), HS6⟩
                      · have e : H = i := by omega
                        subst e
                        go_wp2_with fail
                        go_roundg (n - (j + 1))
                        case measure => go_light; omega
                        case rel => exact ⟨j + 1, by omega, by omega, rfl, by go_num, hid (fun j' h1 h2 i hi s hs2 => by
                          rcases (show j' < j ∨ j' = j by omega) with h | h
                          · exact HJ.out j' h1 h i hi s hs2
                          · subst h; exact HI3.out i hi s hs2), HS⟩
                  · have e : n = j := by omega
                    subst e
                    exact absurd (HFIN.out HLO.out HA.out (fun j h1 h2 i hi s hs => by
                      rcases HJ.out j h1 h2 i hi s hs with h | h
                      · exact .inl h
                      · exact .inr (fun k hk u hu hc => h k (by rw [HNE.out]; exact hk) u hu hc))) heq

end Go.Proofs.YtmjpcmeinlkfbaaGreatDoor
