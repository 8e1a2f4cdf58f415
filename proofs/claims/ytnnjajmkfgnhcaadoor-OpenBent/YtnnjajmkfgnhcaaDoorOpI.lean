/-
  Package open's Open, its first half: the lists that it makes; no program in it but the types' rows.
-/
import Derived.Test.YtnnjajmkfgnhcaaDoorOpE
import Derived.Test.YtnnjajmkfgnhcaaDoorOpH
namespace Go.Proofs.YtnnjajmkfgnhcaaDoor
open Go.RowKit
set_option linter.unusedVariables false
attribute [local go_sem ↓] Go.wp_at_zero Go.wp_at_succ

theorem Tryd.infoK : (Tryd.prog.info? 72).map (fun i => (i.zero, i.size, i.bytes)) = some (some (.agg #[.slice none 0 0, .slice none 0 0]), 2, 48) := by kernel_rfl
theorem Tryd.infoA : (Tryd.prog.info? 41).map (fun i => (i.zero, i.size, i.bytes)) = some (some (.agg #[.int .u64 0, .int .u64 0]), 2, 16) := by kernel_rfl
theorem Tryd.infoB : (Tryd.prog.info? 73).map (fun i => (i.zero, i.size, i.bytes)) = some (some (.agg #[.slice none 0 0, .slice none 0 0]), 2, 48) := by kernel_rfl
/-- The opening's lists, made and not yet told: roots in block RB, looks in block LB, the box X. -/
structure OpM (w W : World) (X RB LB n m : Nat) (v : Int) (rv : Nat → Int) : Prop where
  bel : Below w.heap.size w W
  box : Zero3 W X (.slice (some ⟨RB, 0, none⟩) n n) (.int .u64 v) (.slice (some ⟨LB, 0, none⟩) m m)
  rr : Row W RB 0 n rv
  rf : Free W RB 0 n
  lr : ∀ j, j < 2 * m → W.cell? ⟨LB, j, none⟩ = some (.slice none 0 0) ∧ W.frozen? ⟨LB, j, none⟩ = false
  lo : w.heap.size ≤ X ∧ w.heap.size ≤ RB ∧ w.heap.size ≤ LB
  lt : RB < W.heap.size ∧ LB < W.heap.size
  ne : X ≠ RB ∧ X ≠ LB ∧ RB ≠ LB
theorem run_make_looks (n : Nat) (hn : n ≤ 1000) (w : World) : (Instr.makeSlice 27 (.int .i64 (n : Int)) (.int .i64 (n : Int))).run Tryd.prog w = .ok (.slice (some ⟨w.heap.size, 0, none⟩) n n) (w.alloc (.cells (madeCells #[.slice none 0 0, .slice none 0 0] (n * 2)) 72)) := by
  obtain ⟨i, hi, hz⟩ := Option.map_eq_some_iff.1 Tryd.infoK
  simp only [Prod.mk.injEq] at hz
  obtain ⟨h1, h2, h3⟩ := hz
  have h := run_make (P := Tryd.prog) w 27 72 i _ Tryd.underlying27 hi h1 .i64 .i64 (n : Int) (n : Int) (by omega) (by omega) (by rw [h3]; omega) (by omega)
  rw [h2] at h
  exact h
theorem run_make_prs (n : Nat) (hn : n ≤ 1000) (w : World) : (Instr.makeSlice 69 (.int .i64 (n : Int)) (.int .i64 (n : Int))).run Tryd.prog w = .ok (.slice (some ⟨w.heap.size, 0, none⟩) n n) (w.alloc (.cells (madeCells #[.int .u64 0, .int .u64 0] (n * 2)) 41)) := by
  obtain ⟨i, hi, hz⟩ := Option.map_eq_some_iff.1 Tryd.infoA
  simp only [Prod.mk.injEq] at hz
  obtain ⟨h1, h2, h3⟩ := hz
  have h := run_make (P := Tryd.prog) w 69 41 i _ Tryd.underlying69 hi h1 .i64 .i64 (n : Int) (n : Int) (by omega) (by omega) (by rw [h3]; omega) (by omega)
  rw [h2] at h
  exact h
theorem run_make_pts (n : Nat) (hn : n ≤ 1000) (w : World) : (Instr.makeSlice 70 (.int .i64 (n : Int)) (.int .i64 (n : Int))).run Tryd.prog w = .ok (.slice (some ⟨w.heap.size, 0, none⟩) n n) (w.alloc (.cells (madeCells #[.slice none 0 0, .slice none 0 0] (n * 2)) 73)) := by
  obtain ⟨i, hi, hz⟩ := Option.map_eq_some_iff.1 Tryd.infoB
  simp only [Prod.mk.injEq] at hz
  obtain ⟨h1, h2, h3⟩ := hz
  have h := run_make (P := Tryd.prog) w 70 73 i _ Tryd.underlying70 hi h1 .i64 .i64 (n : Int) (n : Int) (by omega) (by omega) (by rw [h3]; omega) (by omega)
  rw [h2] at h
  exact h
theorem made_pair (x : Value) (m o : Nat) : (madeCells #[x, x] m)[o]? = if o < m then some x else none := by
  by_cases h : o < m
  · rw [if_pos h]
    have : o % 2 = 0 ∨ o % 2 = 1 := by omega
    rcases this with e | e <;> simp [madeCells, h, e]
  · rw [if_neg h]
    simp [madeCells, h]
/-- A list of pairs or looks that is made: all its cells. -/
theorem made_at (W : World) (x : Value) (m : Nat) (t : TypeId) : ∀ j, j < m * 2 → (W.alloc (.cells (madeCells #[x, x] (m * 2)) t)).cell? ⟨W.heap.size, j, none⟩ = some x ∧ (W.alloc (.cells (madeCells #[x, x] (m * 2)) t)).frozen? ⟨W.heap.size, j, none⟩ = false := fun j hj =>
  ⟨by rw [World.cell?_alloc_new, made_pair, if_pos hj], by rw [World.frozen?_alloc_new]⟩

theorem heap_0 (W : World) (x y z : Obj) : (((W.alloc x).alloc y).alloc z).heap[W.heap.size]? = some x :=
  ((bel_new _ z).block _ (by simp; omega)).trans (((bel_new _ y).block _ (by simp)).trans (heap_alloc_new W x))
theorem heap_1 (W : World) (x y z : Obj) : (((W.alloc x).alloc y).alloc z).heap[W.heap.size + 1]? = some y := by
  have e : (W.alloc x).heap.size = W.heap.size + 1 := by simp
  rw [← e]
  exact ((bel_new _ z).block _ (by simp)).trans (heap_alloc_new (W.alloc x) y)
theorem heap_2 (W : World) (x y z : Obj) : (((W.alloc x).alloc y).alloc z).heap[W.heap.size + 1 + 1]? = some z := by
  have e : ((W.alloc x).alloc y).heap.size = W.heap.size + 1 + 1 := by simp
  rw [← e]
  exact heap_alloc_new ((W.alloc x).alloc y) z
theorem OpM.of3 {W1 : World} {x y z : Obj} {X RB LB n m : Nat} {v : Int} {t0 t1 t2 : TypeId}
    (hX : (((W1.alloc x).alloc y).alloc z).heap[X]? = some (.cells #[.slice (some ⟨RB, 0, none⟩) n n, .int .u64 v, .slice (some ⟨LB, 0, none⟩) m m] t0))
    (hR : (((W1.alloc x).alloc y).alloc z).heap[RB]? = some (.cells (madeCells #[.int .u64 0] n) t1))
    (hL : (((W1.alloc x).alloc y).alloc z).heap[LB]? = some (.cells (madeCells #[.slice none 0 0, .slice none 0 0] (m * 2)) t2))
    (lo : W1.heap.size ≤ X ∧ W1.heap.size ≤ RB ∧ W1.heap.size ≤ LB) (ne : X ≠ RB ∧ X ≠ LB ∧ RB ≠ LB) : OpM W1 ((((W1.alloc x).alloc y).alloc z).drew) X RB LB n m v (fun _ => 0) := by
  have b1 := bel_new W1 x
  have b2 := bel_new (W1.alloc x) y
  have b3 := bel_new ((W1.alloc x).alloc y) z
  have hb := (b1.trans (b2.mono b1.size)).trans (b3.mono (Nat.le_trans b1.size b2.size))
  generalize ((W1.alloc x).alloc y).alloc z = W at hX hR hL hb ⊢
  refine ⟨hb.drew, ⟨⟨?_, ?_, ?_⟩, fun j _ => frozen_of_row W X j _ _ hX⟩, fun j hj => ?_, fun j hj => ?_, fun j hj => ⟨?_, frozen_of_row W LB j _ _ hL⟩, lo, ⟨?_, ?_⟩, ne⟩
  · exact cell_of_row W X 0 _ _ (0, 0) hX
  · exact cell_of_row W X 1 _ _ (0, 0) hX
  · exact cell_of_row W X 2 _ _ (0, 0) hX
  · rw [Nat.zero_add]
    refine (cell_of_row W RB j _ _ (0, 0) hR).trans ?_
    simp [madeCells, hj, Nat.mod_one]
  · rw [Nat.zero_add]
    exact frozen_of_row W RB j _ _ hR
  · refine (cell_of_row W LB j _ _ (0, 0) hL).trans ?_
    rw [made_pair, if_pos (by omega)]
  · exact (Array.getElem?_eq_some_iff.1 hR).1
  · exact (Array.getElem?_eq_some_iff.1 hL).1

theorem OpM.kept {w W W' : World} {X RB LB n m : Nat} {v : Int} {rv : Nat → Int} (h : OpM w W X RB LB n m v rv) (hb : Below W.heap.size W W') : OpM w W' X RB LB n m v rv :=
  ⟨h.bel.trans (hb.mono h.bel.size), h.box.kept hb, fun j hj => (hb.cell h.lt.1).trans (h.rr j hj), fun j hj => (hb.frozen h.lt.1).trans (h.rf j hj), fun j hj => ⟨(hb.cell h.lt.2).trans (h.lr j hj).1, (hb.frozen h.lt.2).trans (h.lr j hj).2⟩, h.lo, ⟨Nat.lt_of_lt_of_le h.lt.1 hb.size, Nat.lt_of_lt_of_le h.lt.2 hb.size⟩, h.ne⟩
theorem OpM.drew {w W : World} {X RB LB n m : Nat} {v : Int} {rv : Nat → Int} (h : OpM w W X RB LB n m v rv) : OpM w W.drew X RB LB n m v rv :=
  ⟨h.bel.drew, h.box.dr, h.rr, h.rf, h.lr, h.lo, h.lt, h.ne⟩
theorem OpM.putR {w W : World} {X RB LB n m : Nat} {v : Int} {rv : Nat → Int} (h : OpM w W X RB LB n m v rv) {i : Nat} (hi : i < n) (x : Int) (rv' : Nat → Int) (he : ∀ j, j < n → (if j = i then x else rv j) = rv' j) : OpM w (W.setCell ⟨RB, i, none⟩ (.int .u64 x)) X RB LB n m v rv' := by
  have hs := h.rr.store i x hi
  rw [Nat.zero_add] at hs
  refine ⟨h.bel.setCell h.lo.2.1 _, ⟨h.box.c.set h.ne.1, fun j hj => by rw [World.frozen?_setCell]; exact h.box.f j hj⟩, hs.congr he, fun j hj => by rw [World.frozen?_setCell]; exact h.rf j hj, fun j hj => ⟨?_, by rw [World.frozen?_setCell]; exact (h.lr j hj).2⟩, h.lo, by rw [World.size_setCell]; exact h.lt, h.ne⟩
  rw [World.cell?_setCell_other _ _ _ _ (by intro e; simp only [Addr.mk.injEq] at e; exact h.ne.2.2 e.1)]
  exact (h.lr j hj).1

/-- The looks' lists, made one by one: t of them. -/
structure LkT (W1 W : World) (X RB LB n m t : Nat) (v : Int) (rv : Nat → Int) (pb tb : Nat → Nat) : Prop where
  bel : Below W1.heap.size W1 W
  box : Bx3 W X (.slice (some ⟨RB, 0, none⟩) n n) (.int .u64 v) (.slice (some ⟨LB, 0, none⟩) m m)
  rr : Row W RB 0 n rv
  done : ∀ k, k < t → W.cell? ⟨LB, 2 * k, none⟩ = some (.slice (some ⟨pb k, 0, none⟩) n n) ∧ W.cell? ⟨LB, 2 * k + 1, none⟩ = some (.slice (some ⟨tb k, 0, none⟩) n n)
  todo : ∀ k, t ≤ k → k < m → W.cell? ⟨LB, 2 * k, none⟩ = some (.slice none 0 0) ∧ W.cell? ⟨LB, 2 * k + 1, none⟩ = some (.slice none 0 0)
  fl : ∀ j, j < 2 * m → W.frozen? ⟨LB, j, none⟩ = false
  pc : ∀ k j, k < t → j < n * 2 → W.cell? ⟨pb k, j, none⟩ = some (.int .u64 0) ∧ W.frozen? ⟨pb k, j, none⟩ = false
  tc : ∀ k j, k < t → j < n * 2 → W.cell? ⟨tb k, j, none⟩ = some (.slice none 0 0) ∧ W.frozen? ⟨tb k, j, none⟩ = false
  lo : W1.heap.size ≤ X ∧ W1.heap.size ≤ RB ∧ W1.heap.size ≤ LB
  lt : X < W.heap.size ∧ RB < W.heap.size ∧ LB < W.heap.size
  ne : X ≠ RB ∧ X ≠ LB ∧ RB ≠ LB
  hi : ∀ k, k < t → W1.heap.size ≤ pb k ∧ W1.heap.size ≤ tb k ∧ pb k < W.heap.size ∧ tb k < W.heap.size
  far : ∀ k, k < t → pb k ≠ X ∧ pb k ≠ RB ∧ pb k ≠ LB ∧ tb k ≠ X ∧ tb k ≠ RB ∧ tb k ≠ LB
  pt : ∀ k j, k < t → j < t → pb k ≠ tb j
  pp : ∀ k j, k < t → j < t → k ≠ j → pb k ≠ pb j ∧ tb k ≠ tb j
  rf : Free W RB 0 n
theorem OpM.looks {w W : World} {X RB LB n m : Nat} {v : Int} {rv : Nat → Int} (h : OpM w W X RB LB n m v rv) (pb tb : Nat → Nat) : LkT w W X RB LB n m 0 v rv pb tb :=
  ⟨h.bel, h.box.c, h.rr, fun k hk => absurd hk (by omega), fun k _ hk => ⟨(h.lr (2 * k) (by omega)).1, (h.lr (2 * k + 1) (by omega)).1⟩, fun j hj => (h.lr j hj).2, fun k j hk => absurd hk (by omega), fun k j hk => absurd hk (by omega), h.lo, ⟨World.block_lt_of_cell? W _ h.box.c.c0, h.lt⟩, h.ne, fun k hk => absurd hk (by omega), fun k hk => absurd hk (by omega), fun k j hk => absurd hk (by omega), fun k j hk => absurd hk (by omega), h.rf⟩
theorem LkT.kept {W1 W W' : World} {X RB LB n m t : Nat} {v : Int} {rv : Nat → Int} {pb tb : Nat → Nat} (h : LkT W1 W X RB LB n m t v rv pb tb) (hb : Below W.heap.size W W') : LkT W1 W' X RB LB n m t v rv pb tb :=
  ⟨h.bel.trans (hb.mono h.bel.size), h.box.kept hb, fun j hj => (hb.cell h.lt.2.1).trans (h.rr j hj), fun k hk => ⟨(hb.cell h.lt.2.2).trans (h.done k hk).1, (hb.cell h.lt.2.2).trans (h.done k hk).2⟩, fun k h1 hk => ⟨(hb.cell h.lt.2.2).trans (h.todo k h1 hk).1, (hb.cell h.lt.2.2).trans (h.todo k h1 hk).2⟩, fun j hj => (hb.frozen h.lt.2.2).trans (h.fl j hj),
   fun k j hk hj => ⟨(hb.cell (h.hi k hk).2.2.1).trans (h.pc k j hk hj).1, (hb.frozen (h.hi k hk).2.2.1).trans (h.pc k j hk hj).2⟩, fun k j hk hj => ⟨(hb.cell (h.hi k hk).2.2.2).trans (h.tc k j hk hj).1, (hb.frozen (h.hi k hk).2.2.2).trans (h.tc k j hk hj).2⟩, h.lo,
   ⟨Nat.lt_of_lt_of_le h.lt.1 hb.size, Nat.lt_of_lt_of_le h.lt.2.1 hb.size, Nat.lt_of_lt_of_le h.lt.2.2 hb.size⟩, h.ne, fun k hk => ⟨(h.hi k hk).1, (h.hi k hk).2.1, Nat.lt_of_lt_of_le (h.hi k hk).2.2.1 hb.size, Nat.lt_of_lt_of_le (h.hi k hk).2.2.2 hb.size⟩, h.far, h.pt, h.pp, h.rf.kept hb h.lt.2.1⟩
theorem LkT.drew {W1 W : World} {X RB LB n m t : Nat} {v : Int} {rv : Nat → Int} {pb tb : Nat → Nat} (h : LkT W1 W X RB LB n m t v rv pb tb) : LkT W1 W.drew X RB LB n m t v rv pb tb := h.kept (Below.refl _ W).drew
/-- One look's lists more. -/
theorem LkT.next {W1 W : World} {X RB LB n m t P T : Nat} {v : Int} {rv : Nat → Int} {pb tb : Nat → Nat} {x y : Obj} {t1 t2 : TypeId} (h : LkT W1 W X RB LB n m t v rv pb tb) (ht : t < m)
    (hP : ((W.alloc x).alloc y).heap[P]? = some (.cells (madeCells #[.int .u64 0, .int .u64 0] (n * 2)) t1)) (hT : ((W.alloc x).alloc y).heap[T]? = some (.cells (madeCells #[.slice none 0 0, .slice none 0 0] (n * 2)) t2))
    (lP : W.heap.size ≤ P) (lT : W.heap.size ≤ T) (hne : P ≠ T) :
    LkT W1 ((((W.alloc x).alloc y).setCell ⟨LB, t * 2, none⟩ (.slice (some ⟨P, 0, none⟩) n n)).setCell ⟨LB, t * 2 + 1, none⟩ (.slice (some ⟨T, 0, none⟩) n n)) X RB LB n m (t + 1) v rv (putA pb t P) (putA tb t T) := by
  have b1 := bel_new W x
  have b2 := bel_new (W.alloc x) y
  have h2 := h.kept (b1.trans (b2.mono b1.size))
  have hlt := h.lt
  have hlo := h.lo
  have hhi := h.hi
  have hsz := h.bel.size
  generalize (W.alloc x).alloc y = V at hP hT h2 ⊢
  have far : ∀ (b j : Nat) (u : Value), b ≠ LB → V.cell? ⟨b, j, none⟩ = some u → ((V.setCell ⟨LB, t * 2, none⟩ (.slice (some ⟨P, 0, none⟩) n n)).setCell ⟨LB, t * 2 + 1, none⟩ (.slice (some ⟨T, 0, none⟩) n n)).cell? ⟨b, j, none⟩ = some u := fun b j u hb hc => by
    rw [World.cell?_setCell_other _ _ _ _ (by intro e; simp only [Addr.mk.injEq] at e; exact hb e.1.symm), World.cell?_setCell_other _ _ _ _ (by intro e; simp only [Addr.mk.injEq] at e; exact hb e.1.symm)]; exact hc
  have same : ∀ (j : Nat) (u : Value), j ≠ t * 2 → j ≠ t * 2 + 1 → V.cell? ⟨LB, j, none⟩ = some u → ((V.setCell ⟨LB, t * 2, none⟩ (.slice (some ⟨P, 0, none⟩) n n)).setCell ⟨LB, t * 2 + 1, none⟩ (.slice (some ⟨T, 0, none⟩) n n)).cell? ⟨LB, j, none⟩ = some u := fun j u n1 n2 hc => by
    rw [World.cell?_setCell_other _ _ _ _ (by intro e; simp only [Addr.mk.injEq] at e; omega), World.cell?_setCell_other _ _ _ _ (by intro e; simp only [Addr.mk.injEq] at e; omega)]; exact hc
  have fz : ∀ a : Addr, ((V.setCell ⟨LB, t * 2, none⟩ (.slice (some ⟨P, 0, none⟩) n n)).setCell ⟨LB, t * 2 + 1, none⟩ (.slice (some ⟨T, 0, none⟩) n n)).frozen? a = V.frozen? a := fun a => by rw [World.frozen?_setCell, World.frozen?_setCell]
  have hc0 := (h2.todo t (Nat.le_refl _) ht).1
  have hc1 := (h2.todo t (Nat.le_refl _) ht).2
  rw [Nat.mul_comm 2 t] at hc0 hc1
  have old : ∀ k, k < t + 1 → k ≠ t → k < t := fun k h1 h2 => by omega
  refine ⟨(h2.bel.setCell hlo.2.2 _).setCell hlo.2.2 _, ⟨far _ _ _ h.ne.2.1 h2.box.c0, far _ _ _ h.ne.2.1 h2.box.c1, far _ _ _ h.ne.2.1 h2.box.c2⟩, fun j hj => far _ _ _ h.ne.2.2 (h2.rr j hj), fun k hk => ?_, fun k h1 hk => ⟨same _ _ (by omega) (by omega) (h2.todo k (by omega) hk).1, same _ _ (by omega) (by omega) (h2.todo k (by omega) hk).2⟩, fun j hj => by rw [fz]; exact h2.fl j hj, fun k j hk hj => ?_, fun k j hk hj => ?_, h2.lo, by rw [World.size_setCell, World.size_setCell]; exact h2.lt, h2.ne, fun k hk => ?_, fun k hk => ?_, fun k j hk hj => ?_, fun k j hk hj hkj => ?_, fun j hj => by rw [fz]; exact h2.rf j hj⟩
  · by_cases e : k = t
    · subst e
      rw [putA, putA, if_pos rfl, if_pos rfl, Nat.mul_comm 2 k]
      refine ⟨?_, ?_⟩
      · rw [World.cell?_setCell_other _ _ _ _ (by intro e; simp only [Addr.mk.injEq] at e; omega), World.cell?_setCell_same _ _ _ hc0]
      · rw [World.cell?_setCell_same _ _ _ (by rw [World.cell?_setCell_other _ _ _ _ (by intro e; simp only [Addr.mk.injEq] at e; omega)]; exact hc1)]
    · rw [putA, putA, if_neg e, if_neg e]
      exact ⟨same _ _ (by omega) (by omega) (h2.done k (old k hk e)).1, same _ _ (by omega) (by omega) (h2.done k (old k hk e)).2⟩
  · rw [fz]
    by_cases e : k = t
    · rw [putA, if_pos e]
      exact ⟨far _ _ _ (by omega) ((cell_of_row V P j _ _ (0, 0) hP).trans (by rw [made_pair, if_pos hj])), frozen_of_row V P j _ _ hP⟩
    · rw [putA, if_neg e]
      exact ⟨far _ _ _ (h.far k (old k hk e)).2.2.1 (h2.pc k j (old k hk e) hj).1, (h2.pc k j (old k hk e) hj).2⟩
  · rw [fz]
    by_cases e : k = t
    · rw [putA, if_pos e]
      exact ⟨far _ _ _ (by omega) ((cell_of_row V T j _ _ (0, 0) hT).trans (by rw [made_pair, if_pos hj])), frozen_of_row V T j _ _ hT⟩
    · rw [putA, if_neg e]
      exact ⟨far _ _ _ (h.far k (old k hk e)).2.2.2.2.2 (h2.tc k j (old k hk e) hj).1, (h2.tc k j (old k hk e) hj).2⟩
  · rw [World.size_setCell, World.size_setCell]
    by_cases e : k = t
    · rw [putA, putA, if_pos e, if_pos e]
      exact ⟨by omega, by omega, (Array.getElem?_eq_some_iff.1 hP).1, (Array.getElem?_eq_some_iff.1 hT).1⟩
    · rw [putA, putA, if_neg e, if_neg e]
      exact h2.hi k (old k hk e)
  · by_cases e : k = t
    · rw [putA, putA, if_pos e, if_pos e]; omega
    · rw [putA, putA, if_neg e, if_neg e]; exact h.far k (old k hk e)
  · by_cases e : k = t
    · rw [putA, if_pos e]
      by_cases e2 : j = t
      · rw [putA, if_pos e2]; exact hne
      · rw [putA, if_neg e2]; have := (hhi j (old j hj e2)).2.2.2; omega
    · rw [putA, if_neg e]
      by_cases e2 : j = t
      · rw [putA, if_pos e2]; have := (hhi k (old k hk e)).2.2.1; omega
      · rw [putA, if_neg e2]; exact h.pt k j (old k hk e) (old j hj e2)
  · by_cases e : k = t
    · have e2 : j ≠ t := fun h => hkj (e.trans h.symm)
      have := hhi j (old j hj e2)
      rw [putA, putA, putA, putA, if_pos e, if_neg e2, if_pos e, if_neg e2]; omega
    · by_cases e2 : j = t
      · have := hhi k (old k hk e)
        rw [putA, putA, putA, putA, if_neg e, if_pos e2, if_neg e, if_pos e2]; omega
      · rw [putA, putA, putA, putA, if_neg e, if_neg e2, if_neg e, if_neg e2]; exact h.pp k j (old k hk e) (old j hj e2) hkj
/-- All of them are made. -/
theorem LkT.all {W1 W : World} {X RB LB n m : Nat} {v : Int} {rv : Nat → Int} {pb tb : Nat → Nat} (h : LkT W1 W X RB LB n m m v rv pb tb) : LkM W W1.heap.size LB n m pb tb (fun _ _ _ => 0) (fun _ _ _ => .slice none 0 0) :=
  ⟨h.done, fun k i e hk hi he => h.pc k (2 * i + e) hk (by omega), fun k i e hk hi he => h.tc k (2 * i + e) hk (by omega), ⟨h.lo.2.2, fun k hk => ⟨(h.hi k hk).1, (h.hi k hk).2.1⟩⟩, fun k hk => ⟨(h.hi k hk).2.2.1, (h.hi k hk).2.2.2⟩, fun k hk => ⟨(h.far k hk).2.2.1, (h.far k hk).2.2.2.2.2⟩, h.pt, h.pp⟩

theorem heap2_0 (W : World) (x y : Obj) : ((W.alloc x).alloc y).heap[W.heap.size]? = some x := ((bel_new _ y).block _ (by simp)).trans (heap_alloc_new W x)
theorem heap2_1 (W : World) (x y : Obj) : ((W.alloc x).alloc y).heap[W.heap.size + 1]? = some y := by
  have e : (W.alloc x).heap.size = W.heap.size + 1 := by simp
  rw [← e]
  exact heap_alloc_new (W.alloc x) y

theorem set_past (W : World) (x y : Obj) (LB i : Nat) (u : Value) (h : LB < W.heap.size) : ((W.alloc x).alloc y).setCell ⟨LB, i, none⟩ u = ((W.setCell ⟨LB, i, none⟩ u).alloc x).alloc y := by
  rw [World.setCell_alloc_past _ _ _ _ (by simp; omega), World.setCell_alloc_past _ _ _ _ h]
theorem LkT.next2 {W1 W : World} {X RB LB n m t P T : Nat} {v : Int} {rv : Nat → Int} {pb tb : Nat → Nat} {x y : Obj} {t1 t2 : TypeId} (h : LkT W1 W X RB LB n m t v rv pb tb) (ht : t < m)
    (hP : ((W.alloc x).alloc y).heap[P]? = some (.cells (madeCells #[.int .u64 0, .int .u64 0] (n * 2)) t1)) (hT : ((W.alloc x).alloc y).heap[T]? = some (.cells (madeCells #[.slice none 0 0, .slice none 0 0] (n * 2)) t2))
    (lP : W.heap.size ≤ P) (lT : W.heap.size ≤ T) (hne : P ≠ T) :
    LkT W1 ((((W.setCell ⟨LB, t * 2, none⟩ (.slice (some ⟨P, 0, none⟩) n n)).setCell ⟨LB, t * 2 + 1, none⟩ (.slice (some ⟨T, 0, none⟩) n n)).alloc x).alloc y) X RB LB n m (t + 1) v rv (putA pb t P) (putA tb t T) := by
  have h1 := h.next ht hP hT lP lT hne
  rw [set_past _ _ _ _ _ _ h.lt.2.2, set_past _ _ _ _ _ _ (by rw [World.size_setCell]; exact h.lt.2.2)] at h1
  exact h1

/-- What is told of the first i tables. -/
def Told3 (E : Nat) (W : World) (S : Nat → Prop) (f g : Nat → Int) (n m i : Nat) (pl : Nat → Nat) (pv : Nat → Nat → Nat → Int) (tv : Nat → Nat → Nat → Value) : Prop :=
  ∀ k' i' e', k' < m → i' < i → e' < 2 → pv k' i' e' = oP f g n (pl k') i' e' ∧ ∃ a, tv k' i' e' = .slice (some ⟨a, 0, none⟩) (n - i') (n - i') ∧ Row W a 0 (n - i') (oT f g n (pl k') i' e') ∧ ¬ S a ∧ a < W.heap.size ∧ E ≤ a ∧ Free W a 0 (n - i')
theorem endQ_at (pl : Nat → Nat) (H k e : Nat) (he : e < 2) : endQ pl H (2 * k + e) = pl k % H + e * H := by
  unfold endQ
  rw [show (2 * k + e) / 2 = k from by omega, show (2 * k + e) % 2 = e from by omega]
theorem Told3.next {E : Nat} {W W' : World} {S : Nat → Prop} {f g : Nat → Int} {n m i : Nat} {pl : Nat → Nat} {pv : Nat → Nat → Nat → Int} {tv : Nat → Nat → Nat → Value} {a : Nat → Nat} (h : Told3 E W S f g n m i pl pv tv) (hE : E ≤ W.heap.size) (hB : ButS S W W') (hS : ∀ c, S c → c < W.heap.size)
    (ha : ∀ j, j < 2 * m → W.heap.size ≤ a j ∧ a j < W'.heap.size ∧ Row W' (a j) 0 (n - i) (pathQ (n - i) (fdQ f g n i) (endQ pl (hfQ n i) j)) ∧ Free W' (a j) 0 (n - i)) :
    Told3 E W' S f g n m (i + 1) pl (updI pv i (2 * m) fun j => nrm (fdQ f g n i (endQ pl (hfQ n i) j))) (updI tv i (2 * m) fun j => .slice (some ⟨a j, 0, none⟩) (n - i) (n - i)) := by
  intro k' i' e' hk hi he
  by_cases ei : i' = i
  · subst ei
    rw [updI, updI, if_pos ⟨rfl, he, by omega⟩, if_pos ⟨rfl, he, by omega⟩]
    obtain ⟨h1, h2, h3, h4⟩ := ha (2 * k' + e') (by omega)
    rw [endQ_at pl _ k' e' he] at h3 ⊢
    exact ⟨rfl, _, rfl, h3, fun hs => by have := hS _ hs; omega, h2, by omega, h4⟩
  · rw [updI, updI, if_neg (fun h2 => ei h2.1), if_neg (fun h2 => ei h2.1)]
    obtain ⟨h1, b, h2, h3, h4, h5, h6, h7⟩ := h k' i' e' hk (by omega) he
    exact ⟨h1, b, h2, fun j hj => hB.cell (h3 j hj) h4, h4, Nat.lt_of_lt_of_le h5 hB.size, h6, fun j hj => (World.frozen?_of_block (hB.block b h5 h4)).trans (h7 j hj)⟩
def adrOf (v : Value) : Option Addr := match v with | .slice a _ _ => a | _ => none
theorem LkM.opened {W : World} {E LB n m : Nat} {pb tb : Nat → Nat} {pv : Nat → Nat → Nat → Int} {tv : Nat → Nat → Nat → Value} {S : Nat → Prop} {f g : Nat → Int} {pl : Nat → Nat} (h : LkM W E LB n m pb tb pv tv) (ht : Told3 E W S f g n m n pl pv tv) :
    OpRow W (some ⟨LB, 0, none⟩) (rightO f g n m pl) ⟨fun k => some ⟨pb k, 0, none⟩, fun k => some ⟨tb k, 0, none⟩, fun _ => n, fun _ => n, fun k i e => adrOf (tv k i e), fun _ i _ => n - i⟩ := fun _ => by
  refine ⟨LB, 0, rfl, fun k hk => ?_⟩
  have hk : k < m := hk
  rw [Nat.zero_add]
  refine ⟨(h.cl k hk).1, (h.cl k hk).2, fun _ => ⟨pb k, 0, rfl, fun i hi => ?_⟩, fun _ => ⟨tb k, 0, rfl, fun i hi => ?_⟩⟩
  · have hi : i < n := hi
    have c0 := (h.pc k i 0 hk hi (by omega)).1
    have c1 := (h.pc k i 1 hk hi (by omega)).1
    rw [(ht k i 0 hk hi (by omega)).1] at c0
    rw [(ht k i 1 hk hi (by omega)).1] at c1
    rw [Nat.zero_add]
    exact ⟨c0, c1⟩
  · have hi : i < n := hi
    have c0 := (h.tc k i 0 hk hi (by omega)).1
    have c1 := (h.tc k i 1 hk hi (by omega)).1
    obtain ⟨_, a0, e0, r0, _⟩ := ht k i 0 hk hi (by omega)
    obtain ⟨_, a1, e1, r1, _⟩ := ht k i 1 hk hi (by omega)
    rw [Nat.zero_add]
    dsimp only
    rw [e0] at c0 ⊢
    rw [e1] at c1 ⊢
    exact ⟨c0, c1, PRow.of r0, PRow.of r1⟩
theorem load_opn {w : World} {b : Nat} {x0 x1 x2 : Value} (c0 : w.cell? ⟨b, 0, none⟩ = some x0) (c1 : w.cell? ⟨b, 1, none⟩ = some x1) (c2 : w.cell? ⟨b, 2, none⟩ = some x2) : (loadVar 29 ⟨b, 0, none⟩).run Tryd.prog w = .ok (.agg #[x0, x1, x2]) w := by
  go_simp
theorem results_opn {fn : Func} {p u : Tmp} (h : fn.results = #[.cell p 29, .tmp u]) {tmps : Array Value} {w : World} {b : Nat} {x0 x1 x2 : Value} (hp : tmps.getD p undef = .pointer (some ⟨b, 0, none⟩)) (c0 : w.cell? ⟨b, 0, none⟩ = some x0) (c1 : w.cell? ⟨b, 1, none⟩ = some x1) (c2 : w.cell? ⟨b, 2, none⟩ = some x2) :
    (results fn tmps).run Tryd.prog w = .ok (.tuple #[.agg #[x0, x1, x2], tmps.getD u undef]) w := by
  rw [results_cell_tmp h, hp]
  simp [asAddr, Result.andThen, load_opn c0 c1 c2]

theorem LkM.but {W W' : World} {E LB n m X0 : Nat} {pb tb : Nat → Nat} {pv : Nat → Nat → Nat → Int} {tv : Nat → Nat → Nat → Value} (h : LkM W E LB n m pb tb pv tv) (hb : ButS (fun c => c = X0) W W') (hx : X0 < E) : LkM W' E LB n m pb tb pv tv := by
  have fz : ∀ b j, b < W.heap.size → b ≠ X0 → W'.frozen? ⟨b, j, none⟩ = W.frozen? ⟨b, j, none⟩ := fun b j h1 h2 => World.frozen?_of_block (hb.block b h1 h2)
  refine ⟨fun k hk => ⟨hb.cell (h.cl k hk).1 ?_, hb.cell (h.cl k hk).2 ?_⟩, fun k i e hk hi he => ⟨hb.cell (h.pc k i e hk hi he).1 ?_, (fz _ _ (h.lt k hk).1 ?_).trans (h.pc k i e hk hi he).2⟩, fun k i e hk hi he => ⟨hb.cell (h.tc k i e hk hi he).1 ?_, (fz _ _ (h.lt k hk).2 ?_).trans (h.tc k i e hk hi he).2⟩, h.lo, fun k hk => ⟨Nat.lt_of_lt_of_le (h.lt k hk).1 hb.size, Nat.lt_of_lt_of_le (h.lt k hk).2 hb.size⟩, h.ne, h.pt, h.pp⟩
  · have := h.lo.1; show ¬ LB = X0; omega
  · have := h.lo.1; show ¬ LB = X0; omega
  · have := (h.lo.2 k hk).1; show ¬ pb k = X0; omega
  · have := (h.lo.2 k hk).1; omega
  · have := (h.lo.2 k hk).2; show ¬ tb k = X0; omega
  · have := (h.lo.2 k hk).2; omega
theorem Told3.but {E : Nat} {W W' : World} {S : Nat → Prop} {f g : Nat → Int} {n m i X0 : Nat} {pl : Nat → Nat} {pv : Nat → Nat → Nat → Int} {tv : Nat → Nat → Nat → Value} (h : Told3 E W S f g n m i pl pv tv) (hb : ButS (fun c => c = X0) W W') (hx : X0 < E) : Told3 E W' S f g n m i pl pv tv := fun k' i' e' hk hi he => by
  obtain ⟨h1, b, h2, h3, h4, h5, h6, h7⟩ := h k' i' e' hk hi he
  exact ⟨h1, b, h2, fun j hj => hb.cell (h3 j hj) (by show ¬ b = X0; omega), h4, Nat.lt_of_lt_of_le h5 hb.size, h6, fun j hj => (World.frozen?_of_block (hb.block b h5 (by omega))).trans (h7 j hj)⟩

theorem but_one {w W : World} {X0 j : Nat} (h : ButS (fun c => c = X0) w W) (y : Value) : ButS (fun c => c = X0) w (W.setCell ⟨X0, j, none⟩ y) := ButS.set (S := fun c => c = X0) h (b := X0) (show X0 = X0 from rfl) y
theorem but_set3 (w : World) (X0 : Nat) (u v x : Value) : ButS (fun c => c = X0) w (((w.setCell ⟨X0, 0, none⟩ u).setCell ⟨X0, 1, none⟩ v).setCell ⟨X0, 2, none⟩ x) := but_one (but_one (but_one (ButS.refl _ w) u) v) x

/-- The lists of an opening that a call made: they lie in new blocks, and may be written up to their caps. -/
def ownsO (w w' : World) (n m rb lb : Nat) : Prop := w.heap.size ≤ rb ∧ Free w' rb 0 n ∧ ∃ (pb tb : Nat → Nat) (pa : Nat → Nat → Nat → Nat), ∀ k, k < m →
  w'.cell? ⟨lb, 2 * k, none⟩ = some (.slice (some ⟨pb k, 0, none⟩) n n) ∧ w'.cell? ⟨lb, 2 * k + 1, none⟩ = some (.slice (some ⟨tb k, 0, none⟩) n n) ∧ w.heap.size ≤ pb k ∧
  (∀ j, j < 2 * n → (∃ x, w'.cell? ⟨pb k, j, none⟩ = some (.int .u64 x)) ∧ w'.frozen? ⟨pb k, j, none⟩ = false) ∧
  ∀ i e, i < n → e < 2 → w'.cell? ⟨tb k, 2 * i + e, none⟩ = some (.slice (some ⟨pa k i e, 0, none⟩) (n - i) (n - i)) ∧ w.heap.size ≤ pa k i e ∧ Free w' (pa k i e) 0 (n - i) ∧ ∃ f, Row w' (pa k i e) 0 (n - i) f
theorem LkM.owns {w W : World} {E LB n m rb : Nat} {pb tb : Nat → Nat} {pv : Nat → Nat → Nat → Int} {tv : Nat → Nat → Nat → Value} {S : Nat → Prop} {f g : Nat → Int} {pl : Nat → Nat} (h : LkM W E LB n m pb tb pv tv) (ht : Told3 E W S f g n m n pl pv tv) (hE : w.heap.size ≤ E) (hb : w.heap.size ≤ rb) (hf : Free W rb 0 n) : ownsO w W n m rb LB := by
  refine ⟨hb, hf, pb, tb, fun k i e => ((adrOf (tv k i e)).map Addr.block).getD 0, fun k hk => ⟨(h.cl k hk).1, (h.cl k hk).2, Nat.le_trans hE (h.lo.2 k hk).1, fun j hj => ?_, fun i e hi he => ?_⟩⟩
  · have h1 := h.pc k (j / 2) (j % 2) hk (by omega) (by omega)
    rw [show 2 * (j / 2) + j % 2 = j from by omega] at h1
    exact ⟨⟨_, h1.1⟩, h1.2⟩
  · obtain ⟨_, a, e1, r1, _, _, h6, h7⟩ := ht k i e hk hi he
    have hc := (h.tc k i e hk hi he).1
    rw [e1] at hc
    have e2 : ((adrOf (tv k i e)).map Addr.block).getD 0 = a := by rw [e1]; rfl
    dsimp only
    rw [e2]
    exact ⟨hc, Nat.le_trans hE h6, h7, _, r1⟩

end Go.Proofs.YtnnjajmkfgnhcaaDoor
