/-
  Several texts in one: LaidD; each opens with what it holds.
-/
import Derived.Test.YtiohbjnnfkadnaaGreatDoorLaid
import Derived.Test.YtiohbjnnfkadnaaGreatDoorMDsk
import Derived.LaidLaws
import Derived.Lib.LaidTab
import Derived.Shelf.Vars
/-
  What the rows' condition gives the walks of a desk: where the listed variables read as the program's text lays them, the world is one that a desk works in.
-/
namespace Go.Proofs.YtiohbjnnfkadnaaGreatDoor
open Go.ChangeShapes Go.WideShapes Go.ChangeAt Go.RowKit
set_option linter.unusedVariables false

theorem globP : Tryz.prog.globalNamed "internal/strconv.uint64pow10" = some 1 := by kernel_rfl
theorem typeP : (Tryz.prog.globals[1]?).map (·.type) = some 196 := by kernel_rfl
theorem globR : Tryz.prog.globalNamed "strconv.ErrRange" = some 7 := by kernel_rfl
theorem typeR : (Tryz.prog.globals[7]?).map (·.type) = some 37 := by kernel_rfl
theorem globE : Tryz.prog.globalNamed "strconv.ErrSyntax" = some 6 := by kernel_rfl
theorem typeE : (Tryz.prog.globals[6]?).map (·.type) = some 37 := by kernel_rfl
theorem pow_is : (Rows.laid_internal_strconv_uint64pow10 : DataW Unit) = Lib.tabData .u64 Lib.pow10Tab := rfl

theorem err_cell {W : World} {n : String} {g : Nat} {cs : Array Value} {fuel : Nat} {nm : String} {d : DataW Unit} {p : List MemPlace} (hg : Tryz.prog.globalNamed n = some g) (hv : W.var? Tryz.prog n = some cs)
    (h : DataW.trod (fun _ => ()) Tryz.prog W 0 (fun _ => true) false fuel 37 cs.toList = some (.iface nm d, p)) : ∃ ev, W.cell? ⟨g, 0, none⟩ = some ev ∧ (ev = .nilIface ∨ ∃ te pe, ev = .iface te pe) := by
  obtain ⟨f', u, v, hc, _, _⟩ := iface_of_trod Tryz.underlying37 h
  refine ⟨.iface u v, ?_, .inr ⟨u, v, rfl⟩⟩
  rw [World.var?_cell hg hv 0, ← Array.getElem?_toList, hc]
  rfl

theorem dw_of_vars {W : World} {d1 d4 d7 : DataW Unit} {n7 : String} {ps : List MemPlace} (hs : W.ShapedOpen Tryz.prog)
    (h : DataW.LaidVars Tryz.prog W [("math/bits.deBruijn32tab", d1), ("math/bits.deBruijn64tab", Rows.laid_math_bits_deBruijn64tab), ("internal/strconv.uint64pow10", Rows.laid_internal_strconv_uint64pow10), ("unicode/utf8.acceptRanges", d4), ("strconv.ErrRange", Rows.laid_strconv_ErrRange), ("strconv.ErrSyntax", Rows.laid_strconv_ErrSyntax), (n7, d7)] ps) : DW W := by
  have hT := tab_of_vars h
  obtain ⟨_, _, _, _, _, _, _, _, _, _, ⟨_, _, _, _, _, _, _, _, _, _, ⟨g3, t3, cs3, f3, p3, q3, hg3, ht3, hv3, hd3, ⟨_, _, _, _, _, _, _, _, _, _, ⟨g5, t5, cs5, f5, p5, q5, hg5, ht5, hv5, hd5, ⟨g6, t6, cs6, f6, p6, q6, hg6, ht6, hv6, hd6, _, _⟩, _⟩, _⟩, _⟩, _⟩, _⟩ := h
  obtain rfl := Option.some.inj (typeP.symm.trans ((Option.some.inj (globP.symm.trans hg3)) ▸ ht3))
  obtain rfl := Option.some.inj (globR.symm.trans hg5)
  obtain rfl := Option.some.inj (typeR.symm.trans ht5)
  obtain rfl := Option.some.inj (globE.symm.trans hg6)
  obtain rfl := Option.some.inj (typeE.symm.trans ht6)
  refine ⟨hT, ?_, err_cell globE hv6 hd6, err_cell globR hv5 hd5, ?_⟩
  · show Lib.TabIs Tryz.prog W "internal/strconv.uint64pow10" .u64 Lib.pow10Tab
    unfold Lib.TabIs
    rw [pow_is] at hd3
    rw [hv3, ← Lib.cells_of_tab Tryz.underlying196 Tryz.underlying60 (by kernel_rfl) (by kernel_rfl) hd3]
  · exact cell_of_shapedOpen_int (g := 0) (t := 3) (zero := #[.int .i64 0]) (k := .i64) hs (of_decide_eq_true (by kernel_rfl)) (by kernel_rfl) rfl (by kernel_rfl) (by kernel_rfl) Tryz.underlying3

end Go.Proofs.YtiohbjnnfkadnaaGreatDoor
