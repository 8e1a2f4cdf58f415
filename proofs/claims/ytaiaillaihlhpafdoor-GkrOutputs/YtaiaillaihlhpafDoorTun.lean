/-
  The turns of a proof in memory: what lies there while they are gathered; what stays; no program in it but types' numbers.
-/
import Derived.Test.YtaiaillaihlhpafDoorGkrM
import Derived.Test.YtaiaillaihlhpafDoorRangeK
namespace Go.Proofs.YtaiaillaihlhpafDoor
open Go.RowKit
set_option linter.unusedVariables false

theorem keepsFrom_below {B : Nat} {W W' : World} (h : Below W.heap.size W W') : KeepsFrom B W W' := ⟨h.size, fun k o _ hk _ => (h.block k (Array.getElem?_eq_some_iff.1 hk).1).trans hk⟩
theorem KeepB.set {n₀ Bs : Nat} (W : World) (b : Nat) (v : Value) (hn : n₀ ≤ b) (hB : Bs ≠ b) : KeepB n₀ Bs W (W.setCell ⟨b, 0, none⟩ v) := ⟨(Below.refl n₀ W).setCell (p := ⟨b, 0, none⟩) hn _, Below.heap_setCell _ _ _ _ hB⟩
theorem KeepB.grown {n₀ Bs R : Nat} {W W' : World} (h : W.grownBy W' (some R)) (hn : n₀ ≤ R) (hs : n₀ ≤ W.heap.size) (hB : Bs < W.heap.size) (hR : Bs ≠ R) : KeepB n₀ Bs W W' := ⟨(Below.refl n₀ W).grown h hs (fun j e => by cases e; exact hn), h.block Bs hB (fun e => hR (by cases e; rfl))⟩
/-- The four cells of turn j. -/
def tvals (c : CQ) (bd od cd : Nat) (D : Nat → Int) (Z : Nat → Option Addr) (CZ : Nat → Nat) (j : Nat) : List Value :=
  [.int .i64 ((c.layers.length : Int) - 1 - (j : Int)), .slice (Z j) ((partsQ c).lg j) (CZ j), .slice (some ⟨bd, od + (partsQ c).at j, none⟩) (2 * (partsQ c).lg (j + 1)) (cd - (partsQ c).at j), .int .u64 ((partsQ c).tau D j)]
def tcells (c : CQ) (bd od cd : Nat) (D : Nat → Int) (Z : Nat → Option Addr) (CZ : Nat → Nat) (m : Nat) : List Value := (List.range m).flatMap (tvals c bd od cd D Z CZ)
theorem tcells_succ (c : CQ) (bd od cd : Nat) (D : Nat → Int) (Z : Nat → Option Addr) (CZ : Nat → Nat) (m : Nat) : tcells c bd od cd D Z CZ (m + 1) = tcells c bd od cd D Z CZ m ++ tvals c bd od cd D Z CZ m := by
  simp [tcells, List.range_succ]
theorem tcells_len (c : CQ) (bd od cd : Nat) (D : Nat → Int) (Z : Nat → Option Addr) (CZ : Nat → Nat) (m : Nat) : (tcells c bd od cd D Z CZ m).length = m * 4 := by
  induction m with
  | zero => rfl
  | succ m ih => rw [tcells_succ, List.length_append, ih]; simp [tvals]; omega
theorem tcells_at (c : CQ) (bd od cd : Nat) (D : Nat → Int) (Z : Nat → Option Addr) (CZ : Nat → Nat) (m j r : Nat) (hj : j < m) (hr : r < 4) : (tcells c bd od cd D Z CZ m)[j * 4 + r]? = (tvals c bd od cd D Z CZ j)[r]? := by
  induction m with
  | zero => omega
  | succ m ih =>
    rw [tcells_succ]
    by_cases e : j < m
    · rw [List.getElem?_append_left (by rw [tcells_len]; omega), ih e]
    · have e2 : j = m := by omega
      subst e2
      rw [List.getElem?_append_right (by rw [tcells_len]; omega), tcells_len, show j * 4 + r - j * 4 = r from by omega]
theorem tcells_congr (c : CQ) (bd od cd : Nat) (D : Nat → Int) {Z Z' : Nat → Option Addr} {CZ CZ' : Nat → Nat} (m : Nat) (h1 : ∀ j, j < m → Z j = Z' j) (h2 : ∀ j, j < m → CZ j = CZ' j) : tcells c bd od cd D Z CZ m = tcells c bd od cd D Z' CZ' m := by
  induction m with
  | zero => rfl
  | succ m ih =>
    rw [tcells_succ, tcells_succ, ih (fun j hj => h1 j (by omega)) (fun j hj => h2 j (by omega))]
    unfold tvals
    rw [h1 m (by omega), h2 m (by omega)]
/-- n turns lie in block T. -/
structure TuRow (w : World) (T : Nat) (c : CQ) (bd od cd : Nat) (D : Nat → Int) (Z : Nat → Option Addr) (CZ : Nat → Nat) (n : Nat) : Prop where
  c0 : ∀ j, j < n → w.cell? ⟨T, j * 4, none⟩ = some (.int .i64 ((c.layers.length : Int) - 1 - (j : Int)))
  c1 : ∀ j, j < n → w.cell? ⟨T, j * 4 + 1, none⟩ = some (.slice (Z j) ((partsQ c).lg j) (CZ j))
  c2 : ∀ j, j < n → w.cell? ⟨T, j * 4 + 2, none⟩ = some (.slice (some ⟨bd, od + (partsQ c).at j, none⟩) (2 * (partsQ c).lg (j + 1)) (cd - (partsQ c).at j))
  c3 : ∀ j, j < n → w.cell? ⟨T, j * 4 + 3, none⟩ = some (.int .u64 ((partsQ c).tau D j))
  zrow : ∀ j, j < n → PRow w (Z j) ((partsQ c).lg j) (zQ (partsQ c) D j)
theorem TuRow.kept {w w' : World} {T : Nat} {c : CQ} {bd od cd : Nat} {D : Nat → Int} {Z : Nat → Option Addr} {CZ : Nat → Nat} {n : Nat} (h : TuRow w T c bd od cd D Z CZ n) (hb : Below w.heap.size w w') : TuRow w' T c bd od cd D Z CZ n :=
  ⟨fun j hj => (hb.cell (World.block_lt_of_cell? w _ (h.c0 j hj))).trans (h.c0 j hj), fun j hj => (hb.cell (World.block_lt_of_cell? w _ (h.c1 j hj))).trans (h.c1 j hj), fun j hj => (hb.cell (World.block_lt_of_cell? w _ (h.c2 j hj))).trans (h.c2 j hj), fun j hj => (hb.cell (World.block_lt_of_cell? w _ (h.c3 j hj))).trans (h.c3 j hj), fun j hj => (h.zrow j hj).kept hb⟩
theorem TuRow.of {w : World} {base T ct : Nat} {c : CQ} {bd od cd : Nat} {D : Nat → Int} {Z : Nat → Option Addr} {CZ : Nat → Nat} {n : Nat} {e : TypeId} (h : w.ownsRow base e 4 (.slice (some ⟨T, 0, none⟩) n ct) n (tcells c bd od cd D Z CZ n)) (hz : ∀ j, j < n → PRow w (Z j) ((partsQ c).lg j) (zQ (partsQ c) D j)) : TuRow w T c bd od cd D Z CZ n :=
  ⟨fun j hj => by have := h.cellAt (j * 4) (by omega); rw [this]; exact tcells_at c bd od cd D Z CZ n j 0 hj (by omega), fun j hj => by rw [h.cellAt (j * 4 + 1) (by omega)]; exact tcells_at c bd od cd D Z CZ n j 1 hj (by omega), fun j hj => by rw [h.cellAt (j * 4 + 2) (by omega)]; exact tcells_at c bd od cd D Z CZ n j 2 hj (by omega), fun j hj => by rw [h.cellAt (j * 4 + 3) (by omega)]; exact tcells_at c bd od cd D Z CZ n j 3 hj (by omega), hz⟩

/-- Cells of numbers don't lie in a box that holds a list. -/
theorem box_ne {W : World} {B b o : Nat} {t : TypeId} {a : Option Addr} {n c : Nat} {q : IntKind} {x : Int} (h : Boxed W B t (.slice a n c)) (hc : W.cell? ⟨b, o, none⟩ = some (.int q x)) : b ≠ B := by
  intro e
  subst e
  have h1 : W.heap[b]? = some (.cells #[.slice a n c] t (0, 0)) := h
  simp only [World.cell?, h1] at hc
  cases o with
  | zero => simp at hc
  | succ o => simp at hc
theorem box_set_cell {W : World} {B b o : Nat} {t : TypeId} {a : Option Addr} {n c : Nat} {q : IntKind} {x : Int} {v : Value} (h : Boxed W B t (.slice a n c)) (hc : W.cell? ⟨b, o, none⟩ = some (.int q x)) : (W.setCell ⟨B, 0, none⟩ v).cell? ⟨b, o, none⟩ = some (.int q x) :=
  (World.cell?_of_block (w := W) (a := ⟨b, o, none⟩) (Below.heap_setCell _ _ _ _ (box_ne h hc))).trans hc
/-- What holds while turns are gathered, k of them being there: the boxes of draws, logs, z and the list; the points so far. -/
structure TuI (c : CQ) (n bd od nd cd : Nat) (D : Nat → Int) (w : World) (X L cl Lb Zb Ab R0 : Nat) (k : Nat) (W : World) (Z : Nat → Option Addr) (CZ : Nat → Nat) (a : Option Addr) : Prop where
  bel : Below w.heap.size w W
  dbox : Boxed W (X + 1) 25 (.slice a (nd - (partsQ c).at k) (cd - (partsQ c).at k))
  deq : (partsQ c).at k < cd → a = some ⟨bd, od + (partsQ c).at k, none⟩
  lbox : Boxed W Lb 77 (.slice (some ⟨L, 0, none⟩) (n + 1) cl)
  lrow : IRow W L 0 (n + 1) (belowQ c)
  zbox : Boxed W Zb 25 (.slice (Z k) ((partsQ c).lg k) (CZ k))
  zrow : ∀ j, j ≤ k → PRow W (Z j) ((partsQ c).lg j) (zQ (partsQ c) D j)
  abox : Boxed W Ab 70 (.slice (some ⟨R0, 0, none⟩) k n)
  arow : W.ownsRow w.heap.size 73 4 (.slice (some ⟨R0, 0, none⟩) k n) k (tcells c bd od cd D Z CZ k)
  lfar : L ≠ R0
  big : Ab + 2 ≤ W.heap.size
  zfar : ∀ j, j ≤ k → ∀ x, Z j = some x → x.block ≠ R0
def TuIn (c : CQ) (n bd od nd cd : Nat) (D : Nat → Int) (w : World) (X L cl Lb Zb Ab R0 : Nat) (k : Nat) (W : World) : Prop := ∃ Z CZ a, TuI c n bd od nd cd D w X L cl Lb Zb Ab R0 k W Z CZ a
/-- It abides the turn of blocks that hold no cells. -/
theorem TuIn.own {c : CQ} {n bd od nd cd : Nat} {D : Nat → Int} {w : World} {X L cl Lb Zb Ab R0 B0 : Nat} (hB : w.heap.size ≤ B0) : OwnFrom B0 (TuIn c n bd od nd cd D w X L cl Lb Zb Ab R0) := by
  rintro k A B row ⟨Z, CZ, a, h⟩ hg hr
  have hr2 : ∀ r, row = some r → ∃ o : Obj, A.heap[r]? = some o ∧ o.isCells = false := fun r e => (hr r e).2
  have bx : ∀ {Bx t v}, Boxed A Bx t v → Boxed B Bx t v := fun {Bx t v} hb => hb.kept hg (fun e => by
    obtain ⟨o, ho, hc⟩ := hr2 Bx e.symm
    rw [show A.heap[Bx]? = _ from hb] at ho; cases ho; cases hc)
  refine ⟨Z, CZ, a, h.bel.grown hg h.bel.size (fun r e => Nat.le_trans hB (hr r e).1), bx h.dbox, h.deq, bx h.lbox, fun j hj => cell_kept (h.lrow j hj) hg hr2, bx h.zbox, fun j hj hn => ?_, bx h.abox, h.arow.kept hg ?_, h.lfar, Nat.le_trans h.big hg.size, h.zfar⟩
  · obtain ⟨b, o, e, hrow⟩ := h.zrow j hj hn
    exact ⟨b, o, e, fun i hi => cell_kept (hrow i hi) hg hr2⟩
  · rcases h.arow.2 with ⟨e, _⟩ | ⟨g, cap, cur, e, _, hgb, _⟩
    · cases e
    · refine .inr fun e' => ?_
      cases e
      obtain ⟨o, ho, hc⟩ := hr2 R0 (by simpa [Value.ownBlock] using e'.symm)
      rw [hgb] at ho; cases ho; cases hc
/-- New blocks change nothing of it. -/
theorem TuI.kept {c : CQ} {n bd od nd cd : Nat} {D : Nat → Int} {w : World} {X L cl Lb Zb Ab R0 k : Nat} {W W' : World} {Z : Nat → Option Addr} {CZ : Nat → Nat} {a : Option Addr} (h : TuI c n bd od nd cd D w X L cl Lb Zb Ab R0 k W Z CZ a) (hb : Below W.heap.size W W') : TuI c n bd od nd cd D w X L cl Lb Zb Ab R0 k W' Z CZ a := by
  have bx : ∀ {Bx t v}, Boxed W Bx t v → Boxed W' Bx t v := fun {Bx t v} hx => (hb.block Bx hx.lt).trans hx
  refine ⟨h.bel.trans (hb.mono h.bel.size), bx h.dbox, h.deq, bx h.lbox, h.lrow.kept hb, bx h.zbox, fun j hj => (h.zrow j hj).kept hb, bx h.abox, ⟨h.arow.1, ?_⟩, h.lfar, Nat.le_trans h.big hb.size, h.zfar⟩
  rcases h.arow.2 with ⟨e, _⟩ | ⟨g, cap, cur, e, hbs, hgb, r⟩
  · cases e
  · exact .inr ⟨g, cap, cur, e, hbs, (hb.block g (Array.getElem?_eq_some_iff.1 hgb).1).trans hgb, r⟩
/-- A turn is appended, and the list is stored. -/
theorem TuI.put {c : CQ} {n bd od nd cd : Nat} {D : Nat → Int} {w : World} {X L cl Lb Zb Ab R0 k : Nat} {W w6 : World} {Z : Nat → Option Addr} {CZ : Nat → Nat} {a : Option Addr} {o : Obj} (h : TuI c n bd od nd cd D w X L cl Lb Zb Ab R0 k W Z CZ a) (hA : w.heap.size ≤ Ab)
    (hown : w6.ownsRow w.heap.size 73 4 (.slice (some ⟨R0, 0, none⟩) (k + 1) n) (k + 1) (tcells c bd od cd D Z CZ k ++ tvals c bd od cd D Z CZ k)) (hg : (W.alloc o).grownBy w6 (some R0)) :
    (w6.cell? ⟨Ab, 0, none⟩ = some (.slice (some ⟨R0, 0, none⟩) k n) ∧ w6.frozen? ⟨Ab, 0, none⟩ = false) ∧
    Below w.heap.size w (w6.setCell ⟨Ab, 0, none⟩ (.slice (some ⟨R0, 0, none⟩) (k + 1) n)) ∧
    Boxed (w6.setCell ⟨Ab, 0, none⟩ (.slice (some ⟨R0, 0, none⟩) (k + 1) n)) (X + 1) 25 (.slice a (nd - (partsQ c).at k) (cd - (partsQ c).at k)) ∧
    Boxed (w6.setCell ⟨Ab, 0, none⟩ (.slice (some ⟨R0, 0, none⟩) (k + 1) n)) Lb 77 (.slice (some ⟨L, 0, none⟩) (n + 1) cl) ∧
    IRow (w6.setCell ⟨Ab, 0, none⟩ (.slice (some ⟨R0, 0, none⟩) (k + 1) n)) L 0 (n + 1) (belowQ c) ∧
    Boxed (w6.setCell ⟨Ab, 0, none⟩ (.slice (some ⟨R0, 0, none⟩) (k + 1) n)) Zb 25 (.slice (Z k) ((partsQ c).lg k) (CZ k)) ∧
    (∀ j, j ≤ k → PRow (w6.setCell ⟨Ab, 0, none⟩ (.slice (some ⟨R0, 0, none⟩) (k + 1) n)) (Z j) ((partsQ c).lg j) (zQ (partsQ c) D j)) ∧
    Boxed (w6.setCell ⟨Ab, 0, none⟩ (.slice (some ⟨R0, 0, none⟩) (k + 1) n)) Ab 70 (.slice (some ⟨R0, 0, none⟩) (k + 1) n) ∧
    (w6.setCell ⟨Ab, 0, none⟩ (.slice (some ⟨R0, 0, none⟩) (k + 1) n)).ownsRow w.heap.size 73 4 (.slice (some ⟨R0, 0, none⟩) (k + 1) n) (k + 1) (tcells c bd od cd D Z CZ (k + 1)) := by
  have hR : ∀ {Bx t v}, Boxed W Bx t v → t ≠ 73 → Bx ≠ R0 := fun {Bx t v} hx ht e => hx.not_row ht h.arow (by rw [e]; rfl)
  have bx6 : ∀ {Bx t v}, Boxed W Bx t v → t ≠ 73 → Boxed w6 Bx t v := fun {Bx t v} hx ht => (hx.alloc o).kept hg (fun e => hR hx ht (by cases e; rfl))
  have a6 := bx6 h.abox (by decide)
  have hRs : w.heap.size ≤ R0 := ((h.arow.lt) R0 rfl).1
  have b6 : Below w.heap.size w w6 := (h.bel.alloc h.bel.size o).grown hg (by have := h.bel.size; simp; omega) (fun j e => by cases e; exact hRs)
  have c6 : ∀ {q : IntKind} {x : Int} (p : Addr), p.block ≠ R0 → W.cell? p = some (.int q x) → w6.cell? p = some (.int q x) := fun {q x} p hp hc => by
    have h1 : (W.alloc o).cell? p = some (.int q x) := by rw [World.cell?_alloc_old _ _ _ (Nat.ne_of_lt (World.block_lt_of_cell? W _ hc))]; exact hc
    exact hg.cell h1 (fun e => hp (by cases e; rfl))
  have ne : ∀ {Bx t v}, Boxed W Bx t v → t ≠ 70 → Bx ≠ Ab := fun {Bx t v} hx ht e => by
    subst e
    have := (show W.heap[Bx]? = _ from hx).symm.trans h.abox
    simp at this
    exact ht this.2
  have st : ∀ {Bx t v}, Boxed W Bx t v → t ≠ 73 → t ≠ 70 → Boxed (w6.setCell ⟨Ab, 0, none⟩ (.slice (some ⟨R0, 0, none⟩) (k + 1) n)) Bx t v := fun {Bx t v} hx h1 h2 => (Below.heap_setCell _ _ _ _ (ne hx h2)).trans (bx6 hx h1)
  refine ⟨⟨a6.cell, a6.frozen⟩, b6.setCell (p := ⟨Ab, 0, none⟩) hA _, st h.dbox (by decide) (by decide), st h.lbox (by decide) (by decide), fun j hj => box_set_cell a6 (c6 ⟨L, 0 + j, none⟩ h.lfar (h.lrow j hj)), st h.zbox (by decide) (by decide), fun j hj hn => ?_, a6.set _, ?_⟩
  · obtain ⟨b, off, e, hrow⟩ := h.zrow j hj hn
    exact ⟨b, off, e, fun i hi => box_set_cell a6 (c6 ⟨b, off + i, none⟩ (show b ≠ R0 from h.zfar j hj _ e) (hrow i hi))⟩
  · rw [tcells_succ]
    exact hown.kept (grownBy_setCell' w6 Ab _) (.inr (fun e => hR h.abox (by decide) (by cases e; rfl)))
/-- The next point is stored, and the draws that are left. -/
theorem TuI.next {c : CQ} {n bd od nd cd : Nat} {D : Nat → Int} {w : World} {X L cl Y k : Nat} {w5 w7 : World} {Z : Nat → Option Addr} {CZ : Nat → Nat} {at' bk k2 rd rc B lk : Nat} {tau : Int} {dv : Value}
    (hput : Below w.heap.size w w5 ∧
      Boxed w5 (X + 1) 25 dv ∧
      Boxed w5 Y 77 (.slice (some ⟨L, 0, none⟩) (n + 1) cl) ∧
      IRow w5 L 0 (n + 1) (belowQ c) ∧
      Boxed w5 (Y + 1) 25 (.slice (Z k) ((partsQ c).lg k) (CZ k)) ∧
      (∀ j, j ≤ k → PRow w5 (Z j) ((partsQ c).lg j) (zQ (partsQ c) D j)) ∧
      Boxed w5 (Y + 1 + 1 + 1) 70 (.slice (some ⟨Y + 1 + 1, 0, none⟩) (k + 1) n) ∧
      w5.ownsRow w.heap.size 73 4 (.slice (some ⟨Y + 1 + 1, 0, none⟩) (k + 1) n) (k + 1) (tcells c bd od cd D Z CZ (k + 1)))
    (hat : (partsQ c).at k = at') (hlk : (partsQ c).lg (k + 1) = bk) (hk2 : 2 * bk = k2) (hrd : nd - at' = rd) (hrc : cd - at' = rc) (htau : D (at' + 2 * bk) = tau) (hX : w.heap.size = X) (hXY : X + 1 < Y)
    (hdv : ∃ a m q, dv = .slice a m q) (hbig : Y + 1 + 1 + 1 + 2 ≤ w5.heap.size) (hL : L ≠ Y + 1 + 1) (hzf : ∀ j, j ≤ k → ∀ x, Z j = some x → x.block ≠ Y + 1 + 1)
    (hB : w5.heap.size ≤ B) (hrow : Row w7 B 0 bk (linQ (fun j => D (at' + j)) (fun j => D (at' + (bk + j))) tau)) (hb7 : Below w5.heap.size w5 w7) :
    TuIn c n bd od nd cd D w X L cl Y (Y + 1) (Y + 1 + 1 + 1) (Y + 1 + 1) (k + 1) ((w7.setCell ⟨Y + 1, 0, none⟩ (.slice (some ⟨B, 0, none⟩) bk bk)).setCell ⟨X + 1, 0, none⟩ (.slice (if rc = k2 + 1 then some ⟨bd, od + at', none⟩ else some ⟨bd, od + at' + (k2 + 1), none⟩) (rd - (k2 + 1)) (rc - (k2 + 1)))) := by
  obtain ⟨p1, p2, p3, p4, p5, p6, p7, p8⟩ := hput
  obtain ⟨da, dm, dq, rfl⟩ := hdv
  have bx : ∀ {Bx t v}, Boxed w5 Bx t v → Boxed w7 Bx t v := fun {Bx t v} hx => (hb7.block Bx hx.lt).trans hx
  have q5 := bx p5
  obtain ⟨w8, hw8⟩ : ∃ x, w7.setCell ⟨Y + 1, 0, none⟩ (.slice (some ⟨B, 0, none⟩) bk bk) = x := ⟨_, rfl⟩
  have st8 : ∀ {Bx t v}, Boxed w7 Bx t v → Bx ≠ Y + 1 → Boxed w8 Bx t v := fun {Bx t v} hx hne => by rw [← hw8]; exact (Below.heap_setCell _ _ _ _ hne).trans hx
  have z8 : Boxed w8 (Y + 1) 25 (.slice (some ⟨B, 0, none⟩) bk bk) := by rw [← hw8]; exact q5.set _
  have d8 : Boxed w8 (X + 1) 25 (.slice da dm dq) := st8 (bx p2) (by omega)
  have c8 : ∀ {b o : Nat} {q : IntKind} {x : Int}, w7.cell? ⟨b, o, none⟩ = some (.int q x) → w8.cell? ⟨b, o, none⟩ = some (.int q x) := fun {b o q x} h => by rw [← hw8]; exact box_set_cell q5 h
  have hs8 : w8.heap.size = w7.heap.size := by rw [← hw8, World.size_setCell]
  have b8 : Below w.heap.size w w8 := by rw [← hw8]; exact (p1.trans (hb7.mono p1.size)).setCell (p := ⟨Y + 1, 0, none⟩) (by show w.heap.size ≤ Y + 1; omega) _
  rw [hw8]
  have hnx : (partsQ c).at (k + 1) = at' + k2 + 1 := by
    show (partsQ c).at k + 2 * (partsQ c).lg (k + 1) + 1 = _
    rw [hat, hlk, hk2]
  have st9 : ∀ {Bx t v} (u : Value), Boxed w8 Bx t v → Bx ≠ X + 1 → Boxed (w8.setCell ⟨X + 1, 0, none⟩ u) Bx t v := fun {Bx t v} u hx hne => (Below.heap_setCell _ _ _ _ hne).trans hx
  have R : ∀ {ao m f} (u : Value), PRow w7 ao m f → PRow (w8.setCell ⟨X + 1, 0, none⟩ u) ao m f := fun {ao m f} u hp hm => by
    obtain ⟨b, o, e, hr⟩ := hp hm
    exact ⟨b, o, e, fun i hi => box_set_cell d8 (c8 (hr i hi))⟩
  refine ⟨fun j => if j = k + 1 then some ⟨B, 0, none⟩ else Z j, fun j => if j = k + 1 then bk else CZ j, if rc = k2 + 1 then some ⟨bd, od + at', none⟩ else some ⟨bd, od + at' + (k2 + 1), none⟩, b8.setCell (p := ⟨X + 1, 0, none⟩) (by show w.heap.size ≤ X + 1; omega) _, ?_, ?_, st9 _ (st8 (bx p3) (by omega)) (by omega), fun j hj => box_set_cell d8 (c8 ((p4.kept hb7) j hj)), ?_, ?_, st9 _ (st8 (bx p7) (by omega)) (by omega), ?_, hL, ?_, ?_⟩
  · rw [hnx, show nd - (at' + k2 + 1) = rd - (k2 + 1) from by omega, show cd - (at' + k2 + 1) = rc - (k2 + 1) from by omega]
    exact d8.set _
  · intro h
    rw [hnx] at h ⊢
    rw [if_neg (by omega), show od + (at' + k2 + 1) = od + at' + (k2 + 1) from by omega]
  · rw [if_pos rfl, if_pos rfl, hlk]
    exact st9 _ z8 (by omega)
  · intro j hj
    by_cases e : j = k + 1
    · subst e
      rw [if_pos rfl, hlk]
      refine R _ ((PRow.of hrow).congr fun i _ => ?_)
      show _ = linQ (fun i => D ((partsQ c).at k + i)) (fun i => D ((partsQ c).at k + (partsQ c).lg (k + 1) + i)) ((partsQ c).tau D k) i
      unfold linQ Parts.tau
      dsimp only
      rw [hat, hlk, htau, Nat.add_assoc]
    · rw [if_neg e]
      exact R _ ((p6 j (by omega)).kept hb7)
  · have e1 : tcells c bd od cd D (fun j => if j = k + 1 then some ⟨B, 0, none⟩ else Z j) (fun j => if j = k + 1 then bk else CZ j) (k + 1) = tcells c bd od cd D Z CZ (k + 1) := tcells_congr c bd od cd D (k + 1) (fun j hj => if_neg (by omega)) (fun j hj => if_neg (by omega))
    rw [e1]
    refine ⟨p8.1, ?_⟩
    rcases p8.2 with ⟨e, _⟩ | ⟨g, cap, cur, e, hbs, hgb, r⟩
    · cases e
    · refine .inr ⟨g, cap, cur, e, hbs, ?_, r⟩
      have hg : g = Y + 1 + 1 := by cases e; rfl
      rw [Below.heap_setCell _ _ _ _ (show g ≠ X + 1 by omega), ← hw8, Below.heap_setCell _ _ _ _ (show g ≠ Y + 1 by omega)]
      exact (hb7.block g (Array.getElem?_eq_some_iff.1 hgb).1).trans hgb
  · rw [World.size_setCell, hs8]; exact Nat.le_trans hbig hb7.size
  · intro j hj x hx
    by_cases e : j = k + 1
    · rw [if_pos e] at hx
      cases hx
      show B ≠ Y + 1 + 1
      omega
    · rw [if_neg e] at hx
      exact hzf j (by omega) x hx

end Go.Proofs.YtaiaillaihlhpafDoor
