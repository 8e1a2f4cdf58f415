/-
  Several texts in one: OpF, OpG; each opens with what it holds.
-/
import Derived.Test.YtmjpcmeinlkfbaaDoorMOpA
/-
  A contract of package open's folds: the table, and all that it is folded to; it makes new blocks and writes nothing that was there.
-/
namespace Go.Proofs.YtmjpcmeinlkfbaaDoor
open Go.RowKit
set_option linter.unusedVariables false
attribute [local go_sem ↓] Go.wp_at_zero Go.wp_at_succ

/-- The table, and all that it is folded to, in memory. -/
structure Fds (w : World) (ao : Option Addr) (n : Nat) (A : Nat → Option Addr) (C : Nat → Nat) (f g : Nat → Int) : Prop where
  row : LRow w ao (n + 1) A (fun k => 2 ^ (n - k)) C (fdQ f g n)
theorem Fds.kept {w w' : World} {ao : Option Addr} {n : Nat} {A : Nat → Option Addr} {C : Nat → Nat} {f g : Nat → Int} (h : Fds w ao n A C f g) (hb : Below w.heap.size w w') : Fds w' ao n A C f g := ⟨h.row.kept hb⟩
theorem Fds.at {w : World} {ao : Option Addr} {n : Nat} {A : Nat → Option Addr} {C : Nat → Nat} {f g : Nat → Int} (h : Fds w ao n A C f g) : ∃ b off, ao = some ⟨b, off, none⟩ ∧ ∀ k, k ≤ n → ∃ b2 o2, w.cell? ⟨b, off + k, none⟩ = some (.slice (some ⟨b2, o2, none⟩) (2 ^ (n - k)) (C k)) ∧ Row w b2 o2 (2 ^ (n - k)) (fdQ f g n k) := by
  obtain ⟨b, off, e, hr⟩ := h.row (by omega)
  refine ⟨b, off, e, fun k hk => ?_⟩
  obtain ⟨h1, h2⟩ := hr k (by omega)
  obtain ⟨b2, o2, e2, h3⟩ := h2 (Nat.two_pow_pos _)
  rw [e2] at h1
  exact ⟨b2, o2, h1, h3⟩


end Go.Proofs.YtmjpcmeinlkfbaaDoor

/-
  Looks in memory, while they are told: what lies there, what a store leaves, what stays; no program in it.
-/
namespace Go.Proofs.YtmjpcmeinlkfbaaDoor
open Go.RowKit
set_option linter.unusedVariables false

/-- w' is w, with new blocks, but for the blocks of S. -/
structure ButS (S : Nat → Prop) (w w' : World) : Prop where
  os : w'.os = w.os
  tape : w'.tape = w.tape
  output : w'.output = w.output
  size : w.heap.size ≤ w'.heap.size
  block : ∀ k, k < w.heap.size → ¬ S k → w'.heap[k]? = w.heap[k]?
theorem ButS.refl (S : Nat → Prop) (w : World) : ButS S w w := ⟨rfl, rfl, rfl, Nat.le_refl _, fun _ _ _ => rfl⟩
theorem ButS.of {S : Nat → Prop} {w w' : World} (h : Below w.heap.size w w') : ButS S w w' := ⟨h.os, h.tape, h.output, h.size, fun k hk _ => h.block k hk⟩
theorem ButS.trans {S : Nat → Prop} {w w' w'' : World} (h : ButS S w w') (g : ButS S w' w'') : ButS S w w'' :=
  ⟨g.os.trans h.os, g.tape.trans h.tape, g.output.trans h.output, Nat.le_trans h.size g.size, fun k hk hn => (g.block k (Nat.lt_of_lt_of_le hk h.size) hn).trans (h.block k hk hn)⟩
theorem ButS.drew {S : Nat → Prop} {w w' : World} (h : ButS S w w') : ButS S w w'.drew := ⟨h.os, h.tape, h.output, h.size, h.block⟩
theorem ButS.drewN {S : Nat → Prop} {w w' : World} (h : ButS S w w') (n : Nat) : ButS S w (w'.drewN n) := ⟨h.os, h.tape, h.output, h.size, h.block⟩
theorem ButS.set {S : Nat → Prop} {w w' : World} (h : ButS S w w') {b q : Nat} (hb : S b) (u : Value) : ButS S w (w'.setCell ⟨b, q, none⟩ u) :=
  ⟨h.os, h.tape, h.output, by rw [World.size_setCell]; exact h.size, fun k hk hn => by
    rw [Below.heap_setCell _ _ _ _ (fun e => hn (by rw [e]; exact hb))]; exact h.block k hk hn⟩
theorem ButS.below {S : Nat → Prop} {w w' : World} {E : Nat} (h : ButS S w w') (hS : ∀ k, S k → E ≤ k) (hE : E ≤ w.heap.size) : Below E w w' :=
  ⟨h.os, h.tape, h.output, h.size, fun k hk => h.block k (by omega) (fun hs => by have := hS k hs; omega)⟩
theorem ButS.cell {S : Nat → Prop} {w w' : World} (h : ButS S w w') {a : Addr} {v : Value} (hc : w.cell? a = some v) (hn : ¬ S a.block) : w'.cell? a = some v :=
  (World.cell?_of_block (h.block _ (World.block_lt_of_cell? w _ hc) hn)).trans hc
theorem keepD {W W' : World} (hb : Below W.heap.size W W') {a : Addr} {v : Value} (h : W.cell? a = some v) : W'.cell? a = some v := (hb.cell (World.block_lt_of_cell? W _ h)).trans h
/-- The looks: m of them, in block LB; look k's pairs in block pb k, its paths in block tb k, n of both. -/
structure LkM (W : World) (E LB n m : Nat) (pb tb : Nat → Nat) (pv : Nat → Nat → Nat → Int) (tv : Nat → Nat → Nat → Value) : Prop where
  cl : ∀ k, k < m → W.cell? ⟨LB, 2 * k, none⟩ = some (.slice (some ⟨pb k, 0, none⟩) n n) ∧ W.cell? ⟨LB, 2 * k + 1, none⟩ = some (.slice (some ⟨tb k, 0, none⟩) n n)
  pc : ∀ k i e, k < m → i < n → e < 2 → W.cell? ⟨pb k, 2 * i + e, none⟩ = some (.int .u64 (pv k i e)) ∧ W.frozen? ⟨pb k, 2 * i + e, none⟩ = false
  tc : ∀ k i e, k < m → i < n → e < 2 → W.cell? ⟨tb k, 2 * i + e, none⟩ = some (tv k i e) ∧ W.frozen? ⟨tb k, 2 * i + e, none⟩ = false
  lo : E ≤ LB ∧ ∀ k, k < m → E ≤ pb k ∧ E ≤ tb k
  lt : ∀ k, k < m → pb k < W.heap.size ∧ tb k < W.heap.size
  ne : ∀ k, k < m → pb k ≠ LB ∧ tb k ≠ LB
  pt : ∀ k j, k < m → j < m → pb k ≠ tb j
  pp : ∀ k j, k < m → j < m → k ≠ j → pb k ≠ pb j ∧ tb k ≠ tb j
/-- Its own blocks. -/
def LkM.S (m : Nat) (pb tb : Nat → Nat) (b : Nat) : Prop := ∃ k, k < m ∧ (b = pb k ∨ b = tb k)
theorem LkM.kept {W W' : World} {E LB n m : Nat} {pb tb : Nat → Nat} {pv : Nat → Nat → Nat → Int} {tv : Nat → Nat → Nat → Value} (h : LkM W E LB n m pb tb pv tv) (hb : Below W.heap.size W W') : LkM W' E LB n m pb tb pv tv :=
  ⟨fun k hk => ⟨(hb.cell (World.block_lt_of_cell? W _ (h.cl k hk).1)).trans (h.cl k hk).1, (hb.cell (World.block_lt_of_cell? W _ (h.cl k hk).2)).trans (h.cl k hk).2⟩,
   fun k i e hk hi he => ⟨(hb.cell (World.block_lt_of_cell? W _ (h.pc k i e hk hi he).1)).trans (h.pc k i e hk hi he).1, (hb.frozen (p := ⟨pb k, 2 * i + e, none⟩) (World.block_lt_of_cell? W _ (h.pc k i e hk hi he).1)).trans (h.pc k i e hk hi he).2⟩,
   fun k i e hk hi he => ⟨(hb.cell (World.block_lt_of_cell? W _ (h.tc k i e hk hi he).1)).trans (h.tc k i e hk hi he).1, (hb.frozen (p := ⟨tb k, 2 * i + e, none⟩) (World.block_lt_of_cell? W _ (h.tc k i e hk hi he).1)).trans (h.tc k i e hk hi he).2⟩,
   h.lo, fun k hk => ⟨Nat.lt_of_lt_of_le (h.lt k hk).1 hb.size, Nat.lt_of_lt_of_le (h.lt k hk).2 hb.size⟩, h.ne, h.pt, h.pp⟩
theorem LkM.drew {W : World} {E LB n m : Nat} {pb tb : Nat → Nat} {pv : Nat → Nat → Nat → Int} {tv : Nat → Nat → Nat → Value} (h : LkM W E LB n m pb tb pv tv) : LkM W.drew E LB n m pb tb pv tv := ⟨h.cl, h.pc, h.tc, h.lo, h.lt, h.ne, h.pt, h.pp⟩
def put3 {α : Type} (f : Nat → Nat → Nat → α) (k i e : Nat) (x : α) (k' i' e' : Nat) : α := if k' = k ∧ i' = i ∧ e' = e then x else f k' i' e'
theorem two_e {i e i' e' : Nat} (he : e < 2) (he' : e' < 2) (h : 2 * i' + e' = 2 * i + e) : i' = i ∧ e' = e := by omega
theorem LkM.putP {W : World} {E LB n m : Nat} {pb tb : Nat → Nat} {pv : Nat → Nat → Nat → Int} {tv : Nat → Nat → Nat → Value} (h : LkM W E LB n m pb tb pv tv) {k i e : Nat} (hk : k < m) (hi : i < n) (he : e < 2) (x : Int) : LkM (W.setCell ⟨pb k, 2 * i + e, none⟩ (.int .u64 x)) E LB n m pb tb (put3 pv k i e x) tv := by
  have far : ∀ (b q : Nat) (v : Value), b ≠ pb k → W.cell? ⟨b, q, none⟩ = some v → (W.setCell ⟨pb k, 2 * i + e, none⟩ (.int .u64 x)).cell? ⟨b, q, none⟩ = some v := fun b q v hb hc => by
    rw [World.cell?_setCell_other _ _ _ _ (by intro e2; simp only [Addr.mk.injEq] at e2; exact hb e2.1.symm)]; exact hc
  refine ⟨fun j hj => ⟨far _ _ _ (h.ne k hk).1.symm (h.cl j hj).1, far _ _ _ (h.ne k hk).1.symm (h.cl j hj).2⟩, fun j i' e' hj hi' he' => ?_, fun j i' e' hj hi' he' => ⟨far _ _ _ (h.pt k j hk hj).symm (h.tc j i' e' hj hi' he').1, by rw [World.frozen?_setCell]; exact (h.tc j i' e' hj hi' he').2⟩, h.lo, fun j hj => by rw [World.size_setCell]; exact h.lt j hj, h.ne, h.pt, h.pp⟩
  refine ⟨?_, by rw [World.frozen?_setCell]; exact (h.pc j i' e' hj hi' he').2⟩
  by_cases hkj : j = k
  · subst hkj
    by_cases hp : i' = i ∧ e' = e
    · obtain ⟨rfl, rfl⟩ := hp
      rw [World.cell?_setCell_same _ _ _ (h.pc j i' e' hj hi' he').1, put3, if_pos ⟨rfl, rfl, rfl⟩]
    · rw [World.cell?_setCell_other _ _ _ _ (by intro e2; simp only [Addr.mk.injEq, true_and, and_true] at e2; exact hp (two_e he he' e2.symm)), put3, if_neg (fun h2 => hp h2.2)]
      exact (h.pc j i' e' hj hi' he').1
  · rw [put3, if_neg (fun h2 => hkj h2.1)]
    exact far _ _ _ (h.pp j k hj hk hkj).1 (h.pc j i' e' hj hi' he').1
theorem LkM.putT {W : World} {E LB n m : Nat} {pb tb : Nat → Nat} {pv : Nat → Nat → Nat → Int} {tv : Nat → Nat → Nat → Value} (h : LkM W E LB n m pb tb pv tv) {k i e : Nat} (hk : k < m) (hi : i < n) (he : e < 2) (x : Value) : LkM (W.setCell ⟨tb k, 2 * i + e, none⟩ x) E LB n m pb tb pv (put3 tv k i e x) := by
  have far : ∀ (b q : Nat) (v : Value), b ≠ tb k → W.cell? ⟨b, q, none⟩ = some v → (W.setCell ⟨tb k, 2 * i + e, none⟩ x).cell? ⟨b, q, none⟩ = some v := fun b q v hb hc => by
    rw [World.cell?_setCell_other _ _ _ _ (by intro e2; simp only [Addr.mk.injEq] at e2; exact hb e2.1.symm)]; exact hc
  refine ⟨fun j hj => ⟨far _ _ _ (h.ne k hk).2.symm (h.cl j hj).1, far _ _ _ (h.ne k hk).2.symm (h.cl j hj).2⟩, fun j i' e' hj hi' he' => ⟨far _ _ _ (h.pt j k hj hk) (h.pc j i' e' hj hi' he').1, by rw [World.frozen?_setCell]; exact (h.pc j i' e' hj hi' he').2⟩, fun j i' e' hj hi' he' => ?_, h.lo, fun j hj => by rw [World.size_setCell]; exact h.lt j hj, h.ne, h.pt, h.pp⟩
  refine ⟨?_, by rw [World.frozen?_setCell]; exact (h.tc j i' e' hj hi' he').2⟩
  by_cases hkj : j = k
  · subst hkj
    by_cases hp : i' = i ∧ e' = e
    · obtain ⟨rfl, rfl⟩ := hp
      rw [World.cell?_setCell_same _ _ _ (h.tc j i' e' hj hi' he').1, put3, if_pos ⟨rfl, rfl, rfl⟩]
    · rw [World.cell?_setCell_other _ _ _ _ (by intro e2; simp only [Addr.mk.injEq, true_and, and_true] at e2; exact hp (two_e he he' e2.symm)), put3, if_neg (fun h2 => hp h2.2)]
      exact (h.tc j i' e' hj hi' he').1
  · rw [put3, if_neg (fun h2 => hkj h2.1)]
    exact far _ _ _ (h.pp j k hj hk hkj).2 (h.tc j i' e' hj hi' he').1
/-- The places of a table's pairs: number j of them. -/
def endQ (pl : Nat → Nat) (H j : Nat) : Nat := pl (j / 2) % H + j % 2 * H
def endV (pl : Nat → Nat) (H t : Nat) : List Value := (List.range t).map fun j => Value.int .i64 ((endQ pl H j : Nat) : Int)
theorem endV_len (pl : Nat → Nat) (H t : Nat) : (endV pl H t).length = t := by simp [endV]
theorem endV_at (pl : Nat → Nat) (H t j : Nat) (h : j < t) : (endV pl H t)[j]? = some (.int .i64 ((endQ pl H j : Nat) : Int)) := by simp [endV, h]
theorem endV_next (pl : Nat → Nat) (H k : Nat) (q : Nat) (hq : pl k % H = q) : endV pl H (2 * k) ++ [.int .i64 (q : Int), .int .i64 ((q : Int) + (H : Int))] = endV pl H (2 * (k + 1)) := by
  unfold endV
  rw [show 2 * (k + 1) = 2 * k + 1 + 1 from by omega, List.range_succ, List.range_succ, List.map_append, List.map_append, List.append_assoc]
  congr 1
  have e0 : endQ pl H (2 * k) = q := by unfold endQ; rw [Nat.mul_div_cancel_left _ (by omega), Nat.mul_mod_right, Nat.zero_mul, Nat.add_zero, hq]
  have e1 : endQ pl H (2 * k + 1) = q + H := by unfold endQ; rw [show (2 * k + 1) / 2 = k from by omega, show (2 * k + 1) % 2 = 1 from by omega, Nat.one_mul, hq]
  simp [e0, e1]

end Go.Proofs.YtmjpcmeinlkfbaaDoor
