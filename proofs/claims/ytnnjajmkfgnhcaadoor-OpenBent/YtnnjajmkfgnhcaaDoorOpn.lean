/-
  Openings, as they are told, in memory: roots, value, looks with their pairs and paths; what stays; plain: what the right opening of a table is, when looks hold; no program in it.
-/
import Derived.Test.YtnnjajmkfgnhcaaDoorOwnV
import Derived.Test.YtnnjajmkfgnhcaaDoorTree
import Derived.Test.YtnnjajmkfgnhcaaDoorMleEv
namespace Go.Proofs.YtnnjajmkfgnhcaaDoor
open Go.RowKit
set_option linter.unusedVariables false

/-- n pairs of numbers: pair k has F k 0 and F k 1. -/
def QRow (w : World) (ao : Option Addr) (n : Nat) (F : Nat → Nat → Int) : Prop := 0 < n → ∃ b off, ao = some ⟨b, off, none⟩ ∧ ∀ k, k < n → w.cell? ⟨b, off + 2 * k, none⟩ = some (.int .u64 (F k 0)) ∧ w.cell? ⟨b, off + 2 * k + 1, none⟩ = some (.int .u64 (F k 1))
theorem QRow.kept {w w' : World} {ao : Option Addr} {n : Nat} {F : Nat → Nat → Int} (h : QRow w ao n F) (hb : Below w.heap.size w w') : QRow w' ao n F := fun hn => by
  obtain ⟨b, off, e, hr⟩ := h hn
  exact ⟨b, off, e, fun k hk => ⟨(hb.cell (World.block_lt_of_cell? w _ (hr k hk).1)).trans (hr k hk).1, (hb.cell (World.block_lt_of_cell? w _ (hr k hk).2)).trans (hr k hk).2⟩⟩
/-- n pairs of lists: list e of pair k has L k e numbers. -/
def TRow (w : World) (ao : Option Addr) (n : Nat) (A : Nat → Nat → Option Addr) (L C : Nat → Nat → Nat) (F : Nat → Nat → Nat → Int) : Prop := 0 < n → ∃ b off, ao = some ⟨b, off, none⟩ ∧ ∀ k, k < n →
  w.cell? ⟨b, off + 2 * k, none⟩ = some (.slice (A k 0) (L k 0) (C k 0)) ∧ w.cell? ⟨b, off + 2 * k + 1, none⟩ = some (.slice (A k 1) (L k 1) (C k 1)) ∧ PRow w (A k 0) (L k 0) (F k 0) ∧ PRow w (A k 1) (L k 1) (F k 1)
theorem TRow.kept {w w' : World} {ao : Option Addr} {n : Nat} {A : Nat → Nat → Option Addr} {L C : Nat → Nat → Nat} {F : Nat → Nat → Nat → Int} (h : TRow w ao n A L C F) (hb : Below w.heap.size w w') : TRow w' ao n A L C F := fun hn => by
  obtain ⟨b, off, e, hr⟩ := h hn
  refine ⟨b, off, e, fun k hk => ?_⟩
  obtain ⟨h1, h2, h3, h4⟩ := hr k hk
  exact ⟨(hb.cell (World.block_lt_of_cell? w _ h1)).trans h1, (hb.cell (World.block_lt_of_cell? w _ h2)).trans h2, h3.kept hb, h4.kept hb⟩

/-- The looks of an opening: n of them; look i has np i pairs and nt i pairs of paths. -/
structure OQ where
  n : Nat
  np : Nat → Nat
  nt : Nat → Nat
  P : Nat → Nat → Nat → Int
  tl : Nat → Nat → Nat → Nat
  T : Nat → Nat → Nat → Nat → Int
/-- Where they lie. -/
structure OM where
  pa : Nat → Option Addr
  ta : Nat → Option Addr
  pc : Nat → Nat
  tc : Nat → Nat
  A : Nat → Nat → Nat → Option Addr
  C : Nat → Nat → Nat → Nat
def OpRow (w : World) (ao : Option Addr) (o : OQ) (m : OM) : Prop := 0 < o.n → ∃ b off, ao = some ⟨b, off, none⟩ ∧ ∀ i, i < o.n →
  w.cell? ⟨b, off + 2 * i, none⟩ = some (.slice (m.pa i) (o.np i) (m.pc i)) ∧ w.cell? ⟨b, off + 2 * i + 1, none⟩ = some (.slice (m.ta i) (o.nt i) (m.tc i)) ∧
  QRow w (m.pa i) (o.np i) (o.P i) ∧ TRow w (m.ta i) (o.nt i) (m.A i) (o.tl i) (m.C i) (o.T i)
theorem OpRow.kept {w w' : World} {ao : Option Addr} {o : OQ} {m : OM} (h : OpRow w ao o m) (hb : Below w.heap.size w w') : OpRow w' ao o m := fun hn => by
  obtain ⟨b, off, e, hr⟩ := h hn
  refine ⟨b, off, e, fun k hk => ?_⟩
  obtain ⟨h1, h2, h3, h4⟩ := hr k hk
  exact ⟨(hb.cell (World.block_lt_of_cell? w _ h1)).trans h1, (hb.cell (World.block_lt_of_cell? w _ h2)).trans h2, h3.kept hb, h4.kept hb⟩
theorem OpRow.drew {w : World} {ao : Option Addr} {o : OQ} {m : OM} (h : OpRow w ao o m) : OpRow w.drew ao o m := h
/-- Its numbers are of 64 bits. -/
def OQ.nums (o : OQ) : Prop := ∀ i k e, 0 ≤ o.P i k e ∧ o.P i k e ≤ 18446744073709551615 ∧ Nums (o.T i k e)
/-- It has n pairs and paths a look, of the right lengths. -/
def OQ.form (o : OQ) (n : Nat) : Prop := ∀ i, i < o.n → o.np i = n ∧ o.nt i = n ∧ ∀ k, k < n → o.tl i k 0 = n - k ∧ o.tl i k 1 = n - k

/-- Half of a table of n variables that was folded k times. -/
def hfQ (n k : Nat) : Nat := 2 ^ (n - 1 - k)
theorem hfQ_pos (n k : Nat) : 1 ≤ hfQ n k := Nat.one_le_two_pow
theorem hfQ_two {n k : Nat} (h : k + 1 < n) : hfQ n k = 2 * hfQ n (k + 1) := by
  unfold hfQ
  rw [show n - 1 - k = (n - 1 - (k + 1)) + 1 from by omega, Nat.pow_succ]; omega
theorem hfQ_all {n k : Nat} (h : k < n) : 2 * hfQ n k = 2 ^ (n - k) := by
  unfold hfQ
  rw [show n - k = (n - 1 - k) + 1 from by omega, Nat.pow_succ]; omega
theorem hfQ_le {n k : Nat} (h : n ≤ 8) : hfQ n k ≤ 256 := by
  unfold hfQ
  exact Nat.pow_le_pow_right (j := 8) (by omega) (by omega)
/-- What a look must be folded to, behind its pair k, from place p on: the value, behind the last pair. -/
def nxQ (n : Nat) (P : Nat → Nat → Int) (v : Int) (p k : Nat) : Int := if k + 1 = n then v else P (k + 1) (p % hfQ n k / hfQ n (k + 1))
/-- What a pair is folded to. -/
def btQ (P : Nat → Int) (x : Int) : Int := addQ (P 0) (mulQ x (subQ (P 1) (P 0)))
/-- Pair k of a look of place p holds. -/
def fitB (n : Nat) (rt : Nat → Int) (g : Nat → Int) (v : Int) (P : Nat → Nat → Int) (T : Nat → Nat → Nat → Int) (p k : Nat) : Bool :=
  climbQ (n - k) (p % hfQ n k) (P k 0) (T k 0) == nrm (rt k) && climbQ (n - k) (p % hfQ n k + hfQ n k) (P k 1) (T k 1) == nrm (rt k) && btQ (P k) (g k) == nrm (nxQ n P v p k)
/-- All of the first n. -/
def allB (n : Nat) (f : Nat → Bool) : Bool := (List.range n).all f
theorem allB_succ (n : Nat) (f : Nat → Bool) : allB (n + 1) f = (allB n f && f n) := by simp [allB, List.range_succ]
theorem allB_zero (f : Nat → Bool) : allB 0 f = true := rfl
theorem allB_iff {n : Nat} {f : Nat → Bool} : allB n f = true ↔ ∀ k, k < n → f k = true := by simp [allB]
theorem allB_no {n k : Nat} {f : Nat → Bool} (hk : k < n) (h : f k = false) : allB n f = false := by
  cases e : allB n f
  · rfl
  · have := allB_iff.1 e k hk
    rw [h] at this; cases this
theorem allB_congr {n : Nat} {f g : Nat → Bool} (h : ∀ k, k < n → f k = g k) : allB n f = allB n g := by
  induction n with
  | zero => rfl
  | succ n ih => rw [allB_succ, allB_succ, ih fun k hk => h k (by omega), h n (by omega)]
/-- The root of the table, and those of what it is folded to. -/
def rtQ (root : Int) (R : Nat → Int) (k : Nat) : Int := if k = 0 then root else R (k - 1)
/-- All holds. -/
def lookB (n : Nat) (root : Int) (g : Nat → Int) (m : Nat) (pl : Nat → Nat) (R : Nat → Int) (v : Int) (o : OQ) : Bool :=
  prQ v 0 == nrm (R (n - 1)) && allB m fun i => allB n fun k => fitB n (rtQ root R) g v (o.P i) (o.T i) (pl i) k

/-- The table, folded k times. -/
def fdQ (f g : Nat → Int) (n : Nat) : Nat → Nat → Int
  | 0, j => f j
  | k + 1, j => fldF (fdQ f g n k) (hfQ n k) (g k) j
theorem fdQ_nums (f g : Nat → Int) (n k : Nat) (hf : Nums f) : Nums (fdQ f g n k) := by
  cases k with
  | zero => exact hf
  | succ k => exact Nums_fld _ _ _
theorem fdQ_folded (f g : Nat → Int) (n : Nat) (hf : Nums f) (k : Nat) : k ≤ n → Folded f g n k (2 ^ (n - k)) (fdQ f g n k) := by
  induction k with
  | zero => intro _; exact Folded.start rfl hf
  | succ k ih =>
    intro hk
    have h := ih (by omega)
    rw [← hfQ_all (by omega)] at h
    have h2 := h.next (by omega) (rfl : g k = g k)
    have e : hfQ n k = 2 ^ (n - (k + 1)) := by unfold hfQ; congr 1; omega
    rw [e] at h2
    show Folded f g n (k + 1) (2 ^ (n - (k + 1))) (fldF (fdQ f g n k) (hfQ n k) (g k))
    rw [e]
    exact h2
/-- Its value at the point. -/
theorem fdQ_value (f g : Nat → Int) (n : Nat) (hf : Nums f) (hn : 1 ≤ n) : fdQ f g n n 0 = ofK (evS (fun j => kk (f j)) (fun j => kk (g j)) n) := by
  have h := (fdQ_folded f g n hf n (Nat.le_refl n)).done
  rw [← h]
  obtain ⟨m, rfl⟩ : ∃ m, n = m + 1 := ⟨n - 1, by omega⟩
  show fldF _ _ _ 0 = nrm (fldF _ _ _ 0)
  exact (nrm_in (addQ_rng _ _).1 (addQ_rng _ _).2).symm
/-- The right opening's roots, pairs and paths. -/
def oR (f g : Nat → Int) (n i : Nat) : Int := rootQ (n - 1 - i) (fdQ f g n (i + 1))
def oP (f g : Nat → Int) (n p k e : Nat) : Int := nrm (fdQ f g n k (p % hfQ n k + e * hfQ n k))
def oT (f g : Nat → Int) (n p k e j : Nat) : Int := pathQ (n - k) (fdQ f g n k) (p % hfQ n k + e * hfQ n k) j
def rightO (f g : Nat → Int) (n m : Nat) (pl : Nat → Nat) : OQ := ⟨m, fun _ => n, fun _ => n, fun i => oP f g n (pl i), fun _ k _ => n - k, fun i => oT f g n (pl i)⟩

theorem climbQ_nrm (n : Nat) (leaf : Int) (p : Nat → Int) : ∀ i, climbQ n i (nrm leaf) p = climbQ n i leaf p := by
  induction n with
  | zero => intro i; exact prQ_nrm_l _ _
  | succ n ih => intro i; rw [climbQ, climbQ, ih, ih]
theorem mod_half {n k p : Nat} (h : k + 1 < n) : p % hfQ n k = p % hfQ n (k + 1) + p % hfQ n k / hfQ n (k + 1) * hfQ n (k + 1) ∧ p % hfQ n k / hfQ n (k + 1) < 2 := by
  have e := hfQ_two h
  have hp := hfQ_pos n (k + 1)
  have hlt : p % hfQ n k < hfQ n k := Nat.mod_lt _ (hfQ_pos n k)
  generalize hfQ n (k + 1) = z at *
  generalize hfQ n k = y at *
  subst e
  refine ⟨?_, by rw [Nat.div_lt_iff_lt_mul hp]; exact hlt⟩
  have h1 := Nat.mod_add_div (p % (2 * z)) z
  rw [Nat.mod_mul_left_mod] at h1
  rw [Nat.mul_comm (p % (2 * z) / z) z]
  exact h1.symm
theorem oP_lt {n k p : Nat} (hk : k < n) (e : Nat) (he : e < 2) : p % hfQ n k + e * hfQ n k < 2 ^ (n - k) := by
  rw [← hfQ_all hk]
  have hlt : p % hfQ n k < hfQ n k := Nat.mod_lt _ (hfQ_pos n k)
  match e, he with
  | 0, _ => omega
  | 1, _ => omega
theorem btQ_right (f g : Nat → Int) (n p k : Nat) : btQ (oP f g n p k) (g k) = fdQ f g n (k + 1) (p % hfQ n k) := by
  show addQ (nrm (fdQ f g n k (p % hfQ n k + 0 * hfQ n k))) (mulQ (g k) (subQ (nrm (fdQ f g n k (p % hfQ n k + 1 * hfQ n k))) (nrm (fdQ f g n k (p % hfQ n k + 0 * hfQ n k))))) = addQ (fdQ f g n k (p % hfQ n k)) (mulQ (g k) (subQ (fdQ f g n k (hfQ n k + p % hfQ n k)) (fdQ f g n k (p % hfQ n k))))
  rw [Nat.zero_mul, Nat.add_zero, Nat.one_mul, Nat.add_comm (p % hfQ n k) (hfQ n k)]
  generalize fdQ f g n k (p % hfQ n k) = a
  generalize fdQ f g n k (hfQ n k + p % hfQ n k) = b
  have e1 : subQ (nrm b) (nrm a) = subQ b a := eq_ofK (subQ_rng _ _).1 (subQ_rng _ _).2 (by rw [kk_subQ, kk_nrm, kk_nrm]) |>.trans (eq_ofK (subQ_rng _ _).1 (subQ_rng _ _).2 (by rw [kk_subQ])).symm
  rw [e1]
  exact (eq_ofK (addQ_rng _ _).1 (addQ_rng _ _).2 (by rw [kk_addQ, kk_nrm])).trans (eq_ofK (addQ_rng _ _).1 (addQ_rng _ _).2 (by rw [kk_addQ])).symm
theorem fdQ_rng (f g : Nat → Int) (n k j : Nat) : 0 ≤ fdQ f g n (k + 1) j ∧ fdQ f g n (k + 1) j ≤ 2305843009213693950 := addQ_rng _ _
/-- What is opened holds. -/
theorem opn_fits (f g : Nat → Int) (n p k : Nat) (hk : k < n) : fitB n (rtQ (rootQ n f) (oR f g n)) g (fdQ f g n n 0) (oP f g n p) (oT f g n p) p k = true := by
  have hroot : ∀ e, e < 2 → climbQ (n - k) (p % hfQ n k + e * hfQ n k) (oP f g n p k e) (oT f g n p k e) = nrm (rtQ (rootQ n f) (oR f g n) k) := fun e he => by
    have h1 : oT f g n p k e = pathQ (n - k) (fdQ f g n k) (p % hfQ n k + e * hfQ n k) := rfl
    rw [oP, climbQ_nrm, h1, climb_path (n - k) (fdQ f g n k) _ (oP_lt hk e he)]
    by_cases h0 : k = 0
    · subst h0
      rw [rtQ, if_pos rfl, nrm_in (rootQ_rng _ _).1 (rootQ_rng _ _).2]
      rfl
    · rw [rtQ, if_neg h0, oR, show n - 1 - (k - 1) = n - k from by omega, show k - 1 + 1 = k from by omega, nrm_in (rootQ_rng _ _).1 (rootQ_rng _ _).2]
  have r0 := hroot 0 (by omega)
  have r1 := hroot 1 (by omega)
  rw [Nat.zero_mul, Nat.add_zero] at r0
  rw [Nat.one_mul] at r1
  unfold fitB
  rw [r0, r1, btQ_right]
  have hn : fdQ f g n (k + 1) (p % hfQ n k) = nrm (nxQ n (oP f g n p) (fdQ f g n n 0) p k) := by
    unfold nxQ
    by_cases hl : k + 1 = n
    · rw [if_pos hl]
      have : hfQ n k = 1 := by unfold hfQ; rw [show n - 1 - k = 0 from by omega]
      rw [this, Nat.mod_one]
      subst hl
      exact (nrm_in (fdQ_rng f g _ k 0).1 (fdQ_rng f g _ k 0).2).symm
    · rw [if_neg hl, oP, ← (mod_half (by omega)).1, nrm_in (nrm_rng _).1 (nrm_rng _).2, nrm_in (fdQ_rng f g _ k _).1 (fdQ_rng f g _ k _).2]
  rw [← hn]
  simp
theorem right_looks (f g : Nat → Int) (n m : Nat) (pl : Nat → Nat) (hn : 1 ≤ n) : lookB n (rootQ n f) g m pl (oR f g n) (fdQ f g n n 0) (rightO f g n m pl) = true := by
  unfold lookB
  have e : oR f g n (n - 1) = prQ (fdQ f g n n 0) 0 := by
    rw [oR, show n - 1 - (n - 1) = 0 from by omega, show n - 1 + 1 = n from by omega]; rfl
  rw [e, nrm_in (prQ_rng _ _).1 (prQ_rng _ _).2]
  have : (allB m fun i => allB n fun k => fitB n (rtQ (rootQ n f) (oR f g n)) g (fdQ f g n n 0) ((rightO f g n m pl).P i) ((rightO f g n m pl).T i) (pl i) k) = true := allB_iff.2 fun i _ => allB_iff.2 fun k hk => opn_fits f g n (pl i) k hk
  rw [this]
  simp
theorem rightO_form (f g : Nat → Int) (n m : Nat) (pl : Nat → Nat) : (rightO f g n m pl).form n := fun i _ => ⟨rfl, rfl, fun k _ => ⟨rfl, rfl⟩⟩
theorem rightO_nums (f g : Nat → Int) (n m : Nat) (pl : Nat → Nat) : (rightO f g n m pl).nums := fun i k e => by
  have h1 : 0 ≤ oP f g n (pl i) k e ∧ oP f g n (pl i) k e ≤ 2305843009213693950 := nrm_rng _
  refine ⟨h1.1, ?_, fun j => ?_⟩
  · have := h1.2
    show oP f g n (pl i) k e ≤ _
    omega
  · have := pathQ_rng (n - k) (fdQ f g n k) (pl i % hfQ n k + e * hfQ n k) j
    show 0 ≤ pathQ _ _ _ _ ∧ pathQ _ _ _ _ ≤ _
    omega

end Go.Proofs.YtnnjajmkfgnhcaaDoor
