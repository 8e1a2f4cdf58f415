/-
  What a proof (api.Proof) that came in gives the walk.
-/
import Derived.Test.YtmhifjdgfhgajacDoorChecked
import Derived.Test.YtmhifjdgfhgajacDoorPrf
import Derived.Test.YtmhifjdgfhgajacDoorListsOpen
import Derived.Test.YtmhifjdgfhgajacDoorCircOpen
namespace Go.Proofs.YtmhifjdgfhgajacDoor
open Go.ChangeShapes Go.WideShapes Go.RowKit Go.Deep
set_option linter.unusedVariables false

theorem part_cells : Tryd.prog.cellsOf 74 = 2 := by kernel_rfl
theorem proof_cells : Tryd.prog.cellsOf 33 = 1 := by kernel_rfl
theorem parts_cells : Tryd.prog.cellsOf 31 = 1 := by kernel_rfl
theorem rows_cells : Tryd.prog.cellsOf 65 = 1 := by kernel_rfl
theorem row_cells1 : Tryd.prog.cellsOf 25 = 1 := by kernel_rfl
section
variable {H : Type} {enc : TypeId × Value → H} {W : World} {base : Nat} {held : Bool}
/-- A list of numbers that came in. -/
theorem nums_of {fuel : Nat} {cs : List Value} {x : DataW H × List MemPlace} (h : DataW.trod enc Tryd.prog W base (fun _ => true) held fuel 25 cs = some x) :
    ∃ a len cap f, cs = [.slice a len cap] ∧ PRow W a len f ∧ Nums f ∧ len ≤ cap ∧ cap ≤ maxLen := by
  rcases open_ints Tryd.underlying25 Tryd.underlying53 (by kernel_rfl) h with ⟨hcs, _⟩ | ⟨a, len, cap, zs, hcs, _, hl, hm, hz, _, hc, hw⟩
  · exact ⟨none, 0, 0, fun _ => 0, hcs, fun h0 => absurd h0 (by omega), fun _ => by dsimp only; omega, Nat.le_refl _, Nat.zero_le _⟩
  · simp only [if_true] at hz
    refine ⟨some a, len, cap, fun j => zs.getD j 0, hcs, fun h0 => ?_, nums_of_wf hw, hl, hm⟩
    obtain ⟨b, off, rfl⟩ := cell_at (hc 0 (by omega))
    exact ⟨b, off, rfl, fun j hj => by rw [← add_plain]; exact hc j (by omega)⟩
set_option maxRecDepth 100000 in
theorem part_of {fuel : Nat} {v0 v1 : Value} {x : DataW H × List MemPlace} (h : DataW.trod enc Tryd.prog W base (fun _ => true) held fuel 74 [v0, v1] = some x) :
    ∃ ra rn rc la ln lc A L C F G, v0 = .slice ra rn rc ∧ v1 = .slice la ln lc ∧ LRow W ra rn A L C F ∧ PRow W la ln G ∧ (∀ i, i < rn → Nums (F i) ∧ L i ≤ maxLen) ∧ Nums G ∧ rn ≤ maxLen ∧ ln ≤ maxLen := by
  obtain ⟨y0, y1, k, _, _, g0, g1⟩ := trod_struct2 Tryd.underlying74 h
  simp [rows_cells, row_cells1] at g0 g1
  obtain ⟨la, ln, lc, G, e1, h1, h2, h3, h4⟩ := nums_of g1
  simp at e1
  subst e1
  obtain ⟨ra, rn, rc, rfl⟩ : ∃ ra rn rc, v0 = .slice ra rn rc := by
    rcases open_slice Tryd.underlying65 g0 with ⟨e, _⟩ | ⟨_, _, _, _, _, _, _, e, _⟩
    · simp at e; exact ⟨_, _, _, e⟩
    · simp at e; exact ⟨_, _, _, e⟩
  obtain ⟨A, L, C, F, hL⟩ := lists_of (a := ra) (len := rn) (cap := rc) (by simpa [Value.cells] using g0)
  exact ⟨ra, rn, rc, la, ln, lc, A, L, C, F, G, rfl, rfl, hL.1, h1, hL.2.2.1, h2, hL.2.1, Nat.le_trans h3 h4⟩
set_option maxRecDepth 100000 in
theorem parts_of {fuel : Nat} {a : Option Addr} {len cap : Nat} {x : DataW H × List MemPlace}
    (h : DataW.trod enc Tryd.prog W base (fun _ => true) held fuel 31 [Value.slice a len cap] = some x) : ∃ (p : PQ) (m : PM), IsPrf W a len cap p m := by
  rcases open_slice Tryd.underlying31 h with ⟨hcs, _⟩ | ⟨a', len', cap', mm, n, D, Pl, hcs, _, hl, hm, hmm, _, hx⟩
  · simp at hcs
    obtain ⟨rfl, rfl, rfl⟩ := hcs
    exact ⟨⟨0, fun _ => 0, fun _ => 0, fun _ _ => 0, fun _ _ _ => 0, fun _ _ => 0⟩, ⟨fun _ => none, fun _ => none, fun _ => 0, fun _ => 0, fun _ _ => none, fun _ _ => 0⟩, rfl, Nat.le_refl _, Nat.zero_le _, fun h => absurd h (Nat.lt_irrefl 0), fun j hj => absurd hj (Nat.not_lt_zero j), fun j hj => absurd hj (Nat.not_lt_zero j)⟩
  · simp at hcs
    obtain ⟨rfl, rfl, rfl⟩ := hcs
    simp only [if_true] at hmm
    have each : ∀ i, i < len → ∃ y : (Option Addr × Nat × Nat) × (Option Addr × Nat × Nat) × ((Nat → Option Addr) × (Nat → Nat) × (Nat → Nat)) × (Nat → Nat → Int) × (Nat → Int),
        W.cell? (a'.add (2 * i)) = some (.slice y.1.1 y.1.2.1 y.1.2.2) ∧ W.cell? (a'.add (2 * i + 1)) = some (.slice y.2.1.1 y.2.1.2.1 y.2.1.2.2) ∧
        LRow W y.1.1 y.1.2.1 y.2.2.1.1 y.2.2.1.2.1 y.2.2.1.2.2 y.2.2.2.1 ∧ PRow W y.2.1.1 y.2.1.2.1 y.2.2.2.2 ∧ (∀ k, k < y.1.2.1 → Nums (y.2.2.2.1 k) ∧ y.2.2.1.2.1 k ≤ maxLen) ∧ Nums y.2.2.2.2 ∧ y.1.2.1 ≤ maxLen ∧ y.2.1.2.1 ≤ maxLen := by
      intro i hi
      obtain ⟨cs', h1, h2⟩ := hx i (by omega)
      rw [part_cells] at h1
      obtain ⟨_, hlen, hcell⟩ := World.cells?_some h1
      match cs', hlen with
      | [v0, v1], _ =>
        obtain ⟨ra, rn, rc, la, ln, lc, A, L, C, F, G, e0, e1, p1, p2, p3, p4, p5, p6⟩ := part_of h2
        subst e0
        subst e1
        have c0 := hcell 0 (by omega)
        have c1 := hcell 1 (by omega)
        rw [add_two] at c0 c1
        exact ⟨((ra, rn, rc), (la, ln, lc), (A, L, C), F, G), by simpa using c0, by simpa using c1, p1, p2, p3, p4, p5, p6⟩
    haveI : Inhabited ((Option Addr × Nat × Nat) × (Option Addr × Nat × Nat) × ((Nat → Option Addr) × (Nat → Nat) × (Nat → Nat)) × (Nat → Nat → Int) × (Nat → Int)) := ⟨((none, 0, 0), (none, 0, 0), (fun _ => none, fun _ => 0, fun _ => 0), fun _ _ => 0, fun _ => 0)⟩
    obtain ⟨f, hf⟩ := choose_lt each
    refine ⟨⟨len, fun j => (f j).1.2.1, fun j => (f j).2.1.2.1, fun j => (f j).2.2.1.2.1, fun j => (f j).2.2.2.1, fun j => (f j).2.2.2.2⟩, ⟨fun j => (f j).1.1, fun j => (f j).2.1.1, fun j => (f j).1.2.2, fun j => (f j).2.1.2.2, fun j => (f j).2.2.1.1, fun j => (f j).2.2.1.2.2⟩, rfl, hl, hm, fun h0 => ?_, fun j hj => ?_, fun j hj => ?_⟩
    · obtain ⟨b, off, rfl⟩ := cell_spot (by simpa using (hf 0 h0).1)
      refine ⟨b, off, rfl, fun j hj => ?_⟩
      obtain ⟨c0, c1, c2, c3, _⟩ := hf j hj
      rw [Addr.add_lit] at c0 c1
      exact ⟨c0, c1, c2, c3⟩
    · obtain ⟨_, _, _, _, c4, c5, _⟩ := hf j hj
      exact ⟨fun i hi => (c4 i hi).1, c5⟩
    · obtain ⟨_, _, _, _, c4, _, c6, c7⟩ := hf j hj
      exact ⟨c6, c7, fun i hi => (c4 i hi).2⟩
set_option maxRecDepth 100000 in
theorem prf_val {v : Value} {d : DataW H} {p : List MemPlace} (hv : Value.okWide Tryd.prog W .any base 33 v) (h : DataW.Trod enc Tryd.prog W 0 (fun _ => true) true 33 v d p) :
    ∃ a len cap, v = .agg #[.slice a len cap] := by
  obtain ⟨cs, rfl, hs⟩ := okWide_struct Tryd.underlying33 hv
  obtain ⟨fuel, hf⟩ := h
  obtain ⟨y0, k, _, _, g0⟩ := trod_struct1 Tryd.underlying33 hf
  rw [proof_cells] at hs
  obtain ⟨l⟩ := cs
  match l, hs with
  | [v0], _ =>
    simp [Value.cells, parts_cells] at g0
    rcases open_slice Tryd.underlying31 g0 with ⟨e, _⟩ | ⟨_, _, _, _, _, _, _, e, _⟩
    · simp at e; exact ⟨_, _, _, by rw [e]⟩
    · simp at e; exact ⟨_, _, _, by rw [e]⟩
set_option maxRecDepth 100000 in
theorem prf_of {a : Option Addr} {len cap : Nat} {d : DataW H} {p : List MemPlace} (h : DataW.Trod enc Tryd.prog W 0 (fun _ => true) true 33 (.agg #[.slice a len cap]) d p) :
    ∃ q m, IsPrf W a len cap q m := by
  obtain ⟨fuel, hf⟩ := h
  obtain ⟨y0, k, _, _, g0⟩ := trod_struct1 Tryd.underlying33 hf
  simp [Value.cells, parts_cells] at g0
  exact parts_of g0
end

end Go.Proofs.YtmhifjdgfhgajacDoor
