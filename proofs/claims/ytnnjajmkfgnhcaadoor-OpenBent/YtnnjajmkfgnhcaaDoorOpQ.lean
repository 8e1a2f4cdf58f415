/-
  What the laws of package open have in common: Look of the right opening; lists of places that are appended to; a contract of Look of the right opening with its looks turned.
-/
import Derived.Test.YtnnjajmkfgnhcaaDoorOpJ
import Derived.Test.YtnnjajmkfgnhcaaDoorKeep
import Derived.Test.YtnnjajmkfgnhcaaDoorRefVars
namespace Go.Proofs.YtnnjajmkfgnhcaaDoor
open Go.RowKit
set_option linter.unusedVariables false
attribute [local go_sem ↓] Go.wp_at_zero Go.wp_at_succ

theorem lit2 (w : World) (x y : Int) (t : TypeId) : Row (w.alloc (.cells #[.int .u64 x, .int .u64 y] t)) w.heap.size 0 2 (fun j => if j = 0 then x else y) := fun j hj => by
  rw [Nat.zero_add, World.cell?_alloc_new]
  match j, hj with
  | 0, _ => rfl
  | 1, _ => rfl
theorem lit1 (w : World) (x : Int) (t : TypeId) : PRow (w.alloc (.cells #[.int .u64 x] t)) (some ⟨w.heap.size, 0, none⟩) 1 (fun _ => x) := PRow.of fun j hj => by
  rw [Nat.zero_add, World.cell?_alloc_new]
  match j, hj with
  | 0, _ => rfl
theorem plOk_of {m n : Nat} {pl : Nat → Nat} (hm : m ≤ 32) (h : ∀ j, j < m → pl j < hfQ n 0) : plOk m n (fun j => (pl j : Int)) := ⟨hm, fun j hj => ⟨by dsimp only; omega, by have := h j hj; dsimp only; omega⟩⟩
theorem two_lits (w : World) : Below w.heap.size w ((w.alloc (.cells #[.int .u64 2] 26)).alloc (.cells #[.int .i64 0] 3)) ∧ PRow ((w.alloc (.cells #[.int .u64 2] 26)).alloc (.cells #[.int .i64 0] 3)) (some ⟨w.heap.size, 0, none⟩) 1 (fun _ => (2 : Int)) ∧ IRowP ((w.alloc (.cells #[.int .u64 2] 26)).alloc (.cells #[.int .i64 0] 3)) (some ⟨w.heap.size + 1, 0, none⟩) 1 (fun j => (((fun _ => 0) j : Nat) : Int)) := by
  have b1 := bel_new w (.cells #[.int .u64 2] 26)
  have b2 := bel_new (w.alloc (.cells #[.int .u64 2] 26)) (.cells #[.int .i64 0] 3)
  have hs1 : (w.alloc (.cells #[.int .u64 2] 26)).heap.size = w.heap.size + 1 := by simp
  exact ⟨b1.trans (b2.mono b1.size), (lit1 w 2 26).kept b2, by rw [← hs1]; exact IRowP.one (w.alloc (.cells #[.int .u64 2] 26)) 0 3⟩
/-- Look of the right opening. -/
theorem look_held (n m cp cpl cl rb : Nat) (ap apl al : Option Addr) (root : Int) (f g : Nat → Int) (pl : Nat → Nat) (mm : OM) (w : World) (n1 : 1 ≤ n) (n8 : n ≤ 8) (hm : m ≤ 32) (hpl : ∀ j, j < m → pl j < hfQ n 0) (hroot : root = rootQ n f) (hg : PRow w ap n g) (hgv : Nums g) (hp : IRowP w apl m fun j => (pl j : Int)) (hR : Row w rb 0 n (oR f g n)) (ho : OpRow w al (rightO f g n m pl) mm) :
    Calls Tryd.prog 30 #[.int .u64 root, .slice ap n cp, .slice apl m cpl, .agg #[.slice (some ⟨rb, 0, none⟩) n n, .int .u64 (fdQ f g n n 0), .slice al m cl]] w fun e w' => e = .returned (.tuple #[.bool true, .int .i64 0]) ∧ Below w.heap.size w w' := by
  have hr := rootQ_rng n f
  obtain ⟨q, rfl⟩ : ∃ q, n = q + 1 := ⟨n - 1, by omega⟩
  have hv := fdQ_rng f g (q + 1) q 0
  refine (look_any (q + 1) m cp cpl (q + 1) (q + 1) m cl ap apl (some ⟨rb, 0, none⟩) al root (fdQ f g (q + 1) (q + 1) 0) g (fun j => (pl j : Int)) (oR f g (q + 1)) (rightO f g (q + 1) m pl) mm w (by unfold maxLen; omega) (by unfold maxLen; omega) rfl (by omega) (by omega) hv.1 (by omega) hg hgv hp (PRow.of hR) (fun j => by have := rootQ_rng (q + 1 - 1 - j) (fdQ f g (q + 1) (j + 1)); unfold oR; omega) ho (rightO_nums _ _ _ _ _)).mono ?_
  rintro e w' ⟨r, x, rfl, hout, hb⟩
  have hA : argOk (q + 1) m (fun j => (pl j : Int)) := ⟨n1, n8, plOk_of hm hpl⟩
  have hF : ofmQ (q + 1) (q + 1) m (rightO f g (q + 1) m pl) := ⟨rfl, rfl, rightO_form _ _ _ _ _⟩
  rcases hout with ⟨h, _⟩ | ⟨_, h, _⟩ | ⟨_, _, hr1, hx⟩
  · exact absurd hA h
  · exact absurd hF h
  · have e : (fun j => ((fun j => ((pl j : Nat) : Int)) j).toNat) = pl := by funext j; simp
    rw [e, hroot, right_looks f g (q + 1) m pl n1] at hr1
    rw [hr1, hx]
    exact ⟨rfl, hb⟩
theorem look_right (n m cp cpl lb rb : Nat) (ap apl : Option Addr) (root : Int) (f g : Nat → Int) (pl : Nat → Nat) (mm : OM) (w : World) (n1 : 1 ≤ n) (n8 : n ≤ 8) (hm : m ≤ 32) (hpl : ∀ j, j < m → pl j < hfQ n 0) (hroot : root = rootQ n f) (hg : PRow w ap n g) (hgv : Nums g) (hp : IRowP w apl m fun j => (pl j : Int)) (hR : Row w rb 0 n (oR f g n)) (ho : OpRow w (some ⟨lb, 0, none⟩) (rightO f g n m pl) mm) :
    Calls Tryd.prog 30 #[.int .u64 root, .slice ap n cp, .slice apl m cpl, .agg #[.slice (some ⟨rb, 0, none⟩) n n, .int .u64 (fdQ f g n n 0), .slice (some ⟨lb, 0, none⟩) m m]] w fun e w' => e = .returned (.tuple #[.bool true, .int .i64 0]) ∧ Below w.heap.size w w' :=
  look_held n m cp cpl m rb ap apl (some ⟨lb, 0, none⟩) root f g pl mm w n1 n8 hm hpl hroot hg hgv hp hR ho
/-- Places as the cells of a row. -/
def plV (pl : Nat → Nat) (t : Nat) : List Value := (List.range t).map fun j => Value.int .i64 ((pl j : Nat) : Int)
theorem plV_at (pl : Nat → Nat) (t j : Nat) (h : j < t) : (plV pl t)[j]? = some (.int .i64 ((pl j : Nat) : Int)) := by simp [plV, h]
theorem plV_snoc (pl : Nat → Nat) (t q : Nat) (h : pl t = q) : plV pl t ++ [.int .i64 (q : Int)] = plV pl (t + 1) := by
  unfold plV
  rw [List.range_succ, List.map_append, ← h]; rfl
theorem pl_own {w : World} {base : Nat} {v : Value} {t : Nat} {pl : Nat → Nat} (h : w.ownsRow base 3 1 v t (plV pl t)) : ∃ ao c, v = .slice ao t c ∧ t ≤ c ∧ IRowP w ao t (fun j => ((pl j : Nat) : Int)) := by
  rcases h.2 with ⟨rfl, h0⟩ | ⟨g, cap, cur, rfl, hb, _, hle, _⟩
  · exact ⟨none, 0, by rw [h0], by omega, fun h1 => by omega⟩
  · exact ⟨some ⟨g, 0, none⟩, cap, rfl, hle, fun _ => ⟨g, 0, rfl, fun j hj => by rw [Nat.zero_add, h.cellAt j (by omega), plV_at pl t j hj]⟩⟩
theorem inews (w : World) (x : Int) (t : TypeId) : ∀ j u, [Value.int .i64 x][j]? = some u → (w.alloc (.cells #[.int .i64 x] t)).cell? ((⟨w.heap.size, 0, none⟩ : Addr).add j) = some u := by
  intro j u hj
  match j, hj with
  | 0, hj => simp at hj; subst hj; simp [Addr.add]
theorem ione (x : Int) : ∀ u ∈ [Value.int .i64 x], u.oneCell' = true := by intro u hu; simp at hu; subst hu; rfl
/-- One place more. -/
theorem pl_next {w0 w w6 : World} {base g c t q : Nat} {v : Value} {pl : Nat → Nat} {ob : Obj} (hb : Below base w0 w) (hs : base ≤ w0.heap.size) (h : w.ownsRow base 3 1 v t (plV pl t)) (hq : pl t = q) (ho : w6.ownsRow base 3 1 (.slice (some ⟨g, 0, none⟩) (t + 1) c) (t + 1) (plV pl t ++ [.int .i64 (q : Int)])) (hg : (w.alloc ob).grownBy w6 v.ownBlock) :
    w6.ownsRow base 3 1 (.slice (some ⟨g, 0, none⟩) (t + 1) c) (t + 1) (plV pl (t + 1)) ∧ Below base w0 w6 := by
  have hs1 : base ≤ w.heap.size := Nat.le_trans hs hb.size
  refine ⟨by rw [plV_snoc pl t q hq] at ho; exact ho, (hb.alloc hs1 ob).grown hg (by simp; omega) (fun k hk => (World.ownsRow.lt h k hk).1)⟩

end Go.Proofs.YtnnjajmkfgnhcaaDoor
