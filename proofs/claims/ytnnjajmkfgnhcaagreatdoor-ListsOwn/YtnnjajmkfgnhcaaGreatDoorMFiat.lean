/-
  Several texts in one: Spong, Spg, Spg2, Spg3, GkrN; each opens with what it holds.
-/
import Derived.Test.YtnnjajmkfgnhcaaGreatDoorMulti
import Derived.Test.YtnnjajmkfgnhcaaGreatDoorMem
import Derived.Test.YtnnjajmkfgnhcaaGreatDoorChecked
import Derived.Test.YtnnjajmkfgnhcaaGreatDoorOwn
import Derived.Test.YtnnjajmkfgnhcaaGreatDoorField
import Derived.WalkKit
import Derived.Deep.LoopGhost
import Derived.Deep.Light
import Derived.Deep.OwnRows
import Derived.Deep.DrawnRows
import Derived.Test.YtnnjajmkfgnhcaaGreatDoorMGkA
/-
  Plain: the sponge's three numbers as rests: a turn, mixing, taking; and what a call leaves that turns one block alone; no program in it.
-/
namespace Go.Proofs.YtnnjajmkfgnhcaaGreatDoor
open Go.RowKit
set_option linter.unusedVariables false

def sqK (a : K) : Nat → K
  | 0 => a
  | n + 1 => sqK a n * sqK a n
/-- The 17th power: four squares, and once more. -/
def p17 (a : K) : K := sqK a 4 * a
/-- What number j has become in turn i, ahead of the sums. -/
def powK (i : Nat) (g : Nat → K) (j : Nat) : K := p17 (g j + kn (i * (j + 1)))
/-- Turn i. -/
def turnK (i : Nat) (g : Nat → K) (k : Nat) : K := powK i g 0 + powK i g 1 + (powK i g 2 + powK i g k)
/-- The first n turns. -/
def mixK (g : Nat → K) : Nat → Nat → K
  | 0 => g
  | n + 1 => turnK (n + 1) (mixK g n)
def mixed (g : Nat → K) : Nat → K := mixK g 8
/-- A new sponge's numbers, ahead of mixing. -/
def newK (word : Int) (k : Nat) : K := if k = 0 then 0 else if k = 1 then 1 else kk word
/-- The number x is taken. -/
def addK (g : Nat → K) (x : K) (k : Nat) : K := if k = 0 then g 0 + x else g k
def takeK (g : Nat → K) (x : K) : Nat → K := mixed (addK g x)
/-- How many there are, and the first k numbers of a list. -/
def takesK (g : Nat → K) (n : Nat) (f : Nat → Int) : Nat → Nat → K
  | 0 => takeK g (kn n)
  | k + 1 => takeK (takesK g n f k) (kk (f k))
theorem turnK_congr {g h : Nat → K} (i k : Nat) (hk : k < 3) (e : ∀ j, j < 3 → g j = h j) : turnK i g k = turnK i h k := by
  unfold turnK powK
  rw [e 0 (by omega), e 1 (by omega), e 2 (by omega), e k hk]
theorem mixK_congr {g h : Nat → K} (n : Nat) : ∀ k, k < 3 → (∀ j, j < 3 → g j = h j) → mixK g n k = mixK h n k := by
  induction n with
  | zero => exact fun k hk e => e k hk
  | succ n ih => exact fun k hk e => turnK_congr (n + 1) k hk fun j hj => ih j hj e
/-- The numbers as they lie in memory. -/
def numsK (g : Nat → K) (k : Nat) : Int := ofK (g k)
theorem Nums_K (g : Nat → K) : Nums (numsK g) := fun k => ofK_u64 _
theorem numsK_rng (g : Nat → K) (k : Nat) : 0 ≤ numsK g k ∧ numsK g k ≤ 2305843009213693950 := ofK_rng _

/-- w' is w, but for block b, and for what is new. -/
structure Turned (b : Nat) (w w' : World) : Prop where
  os : w'.os = w.os
  tape : w'.tape = w.tape
  output : w'.output = w.output
  size : w.heap.size ≤ w'.heap.size
  block : ∀ k, k < w.heap.size → k ≠ b → w'.heap[k]? = w.heap[k]?
theorem Turned.refl (b : Nat) (w : World) : Turned b w w := ⟨rfl, rfl, rfl, Nat.le_refl _, fun _ _ _ => rfl⟩
theorem Turned.trans {b : Nat} {w w' w'' : World} (h : Turned b w w') (g : Turned b w' w'') : Turned b w w'' :=
  ⟨g.os.trans h.os, g.tape.trans h.tape, g.output.trans h.output, Nat.le_trans h.size g.size, fun k hk hb => (g.block k (Nat.lt_of_lt_of_le hk h.size) hb).trans (h.block k hk hb)⟩
theorem Turned.drew {b : Nat} {w w' : World} (h : Turned b w w') : Turned b w w'.drew := ⟨h.os, h.tape, h.output, h.size, h.block⟩
theorem Turned.of_below {b : Nat} {w w' : World} (h : Below w.heap.size w w') : Turned b w w' := ⟨h.os, h.tape, h.output, h.size, fun k hk _ => h.block k hk⟩
theorem Turned.below {b B : Nat} {w w' : World} (h : Turned b w w') (hB : B ≤ b) (hw : B ≤ w.heap.size) : Below B w w' := ⟨h.os, h.tape, h.output, h.size, fun k hk => h.block k (by omega) (by omega)⟩
theorem Turned.of_wrote {b o n : Nat} {w w' : World} (h : Wrote b o n w w') : Turned b w w' := ⟨h.os, h.tape, h.output, by rw [h.size]; exact Nat.le_refl _, fun k _ hb => h.block k hb⟩
theorem Turned.setCell {b : Nat} {w w' : World} (h : Turned b w w') (p : Nat) (u : Value) : Turned b w (w'.setCell ⟨b, p, none⟩ u) :=
  ⟨h.os, h.tape, h.output, by rw [World.size_setCell]; exact h.size, fun k hk hb => by rw [Below.heap_setCell _ _ _ _ hb]; exact h.block k hk hb⟩
theorem Row.turned {b c o n : Nat} {f : Nat → Int} {w w' : World} (h : Row w c o n f) (g : Turned b w w') (hb : c ≠ b) : Row w' c o n f := fun j hj =>
  (World.cell?_of_block (w := w) (g.block c (World.block_lt_of_cell? w _ (h j hj)) hb)).trans (h j hj)
theorem Free.turned {b c o n : Nat} {f : Nat → Int} {w w' : World} (h : Free w c o n) (hr : Row w c o n f) (g : Turned b w w') (hb : c ≠ b) : Free w' c o n := fun j hj => by
  have hl : c < w.heap.size := World.block_lt_of_cell? w _ (hr j hj)
  have e := h j hj
  unfold World.frozen? at e ⊢
  rw [g.block c hl hb]
  exact e

/-- The 17th power as package field reckons it. -/
theorem p17_powQ (x : Int) : powQ x 17 = ofK (p17 (kk x)) := by
  have h2 : kk (powQ x 2) = sqK (kk x) 1 := by rw [show 2 = 1 + 1 from rfl, powQ_add, kk_mulQ, powQ_one, kk_nrm]; rfl
  have h4 : kk (powQ x 4) = sqK (kk x) 2 := by rw [show 4 = 2 + 2 from rfl, powQ_add, kk_mulQ, h2]; rfl
  have h8 : kk (powQ x 8) = sqK (kk x) 3 := by rw [show 8 = 4 + 4 from rfl, powQ_add, kk_mulQ, h4]; rfl
  have h16 : kk (powQ x 16) = sqK (kk x) 4 := by rw [show 16 = 8 + 8 from rfl, powQ_add, kk_mulQ, h8]; rfl
  refine eq_ofK (powQ_rng x 17).1 (powQ_rng x 17).2 ?_
  rw [show 17 = 16 + 1 from rfl, powQ_add, kk_mulQ, h16, powQ_one, kk_nrm]; rfl
/-- What Pair makes of two numbers. -/
def pairF (a b : Int) (j : Nat) : Int := if j = 0 then a else b
def pairK (a b : Int) : K := takesK (mixed (newK 7)) 2 (pairF a b) 2 1
theorem takesK_congr {g : Nat → K} (n : Nat) {f f' : Nat → Int} (m : Nat) (h : ∀ j, j < m → kk (f j) = kk (f' j)) : takesK g n f m = takesK g n f' m := by
  induction m with
  | zero => rfl
  | succ m ih => rw [takesK, takesK, ih fun j hj => h j (by omega), h m (by omega)]
theorem pairK_congr {a b c d : Int} (h : kk a = kk c) (g : kk b = kk d) : pairK a b = pairK c d := by
  unfold pairK
  rw [takesK_congr 2 2 (f := pairF a b) (f' := pairF c d) fun j _ => by
    unfold pairF
    by_cases e : j = 0
    · rw [if_pos e, if_pos e, h]
    · rw [if_neg e, if_neg e, g]]
theorem newK_congr {a b : Int} (h : kk a = kk b) : newK a = newK b := by unfold newK; rw [h]
theorem add_row {w : World} {b : Nat} {g : Nat → K} {x : Int} (hr : Row w b 0 3 (numsK g)) (hf : Free w b 0 3) : Row (w.setCell ⟨b, 0, none⟩ (.int .u64 (addQ (ofK (g 0)) x))) b 0 3 (numsK (addK g (kk x))) ∧ Free (w.setCell ⟨b, 0, none⟩ (.int .u64 (addQ (ofK (g 0)) x))) b 0 3 := by
  have hs := hr.store 0 (addQ (ofK (g 0)) x) (by omega)
  rw [Nat.zero_add] at hs
  refine ⟨hs.congr fun j hj => ?_, fun j hj => by rw [World.frozen?_setCell]; exact hf j hj⟩
  unfold numsK addK
  by_cases e : j = 0
  · rw [if_pos e, if_pos e, addQ_ofK, kk_ofK]
  · rw [if_neg e, if_neg e]
/-- Three numbers. -/
def set3 (x y z : Int) (j : Nat) : Int := if j = 0 then x else if j = 1 then y else z
theorem row_new3 (w : World) (x y z : Int) (t : TypeId) : Row (w.alloc (.cells #[.int .u64 x, .int .u64 y, .int .u64 z] t)) w.heap.size 0 3 (set3 x y z) ∧ Free (w.alloc (.cells #[.int .u64 x, .int .u64 y, .int .u64 z] t)) w.heap.size 0 3 := by
  refine ⟨fun j hj => ?_, fun j _ => ?_⟩
  · rw [Nat.zero_add, World.cell?_alloc_new]
    match j, hj with
    | 0, _ => rfl
    | 1, _ => rfl
    | 2, _ => rfl
  · rw [Nat.zero_add, World.frozen?_alloc_new]
theorem kk_set3 (word : Int) : (fun k => kk (set3 0 1 word k)) = newK word := by
  funext k
  unfold set3 newK
  by_cases h0 : k = 0
  · rw [if_pos h0, if_pos h0]; rfl
  · rw [if_neg h0, if_neg h0]
    by_cases h1 : k = 1
    · rw [if_pos h1, if_pos h1]; rfl
    · rw [if_neg h1, if_neg h1]
theorem Nums_set3 {x y z : Int} (hx : 0 ≤ x ∧ x ≤ 18446744073709551615) (hy : 0 ≤ y ∧ y ≤ 18446744073709551615) (hz : 0 ≤ z ∧ z ≤ 18446744073709551615) : Nums (set3 x y z) := fun j => by
  unfold set3
  split
  · exact hx
  · split
    · exact hy
    · exact hz
theorem pair_lit (w : World) (a b : Int) (t : TypeId) : Row (w.alloc (.cells #[.int .u64 a, .int .u64 b] t)) w.heap.size 0 2 (pairF a b) := by
  intro j hj
  rw [Nat.zero_add, World.cell?_alloc_new]
  match j, hj with
  | 0, _ => rfl
  | 1, _ => rfl
theorem Nums_pair {a b : Int} (h0 : 0 ≤ a) (h1 : a ≤ 18446744073709551615) (g0 : 0 ≤ b) (g1 : b ≤ 18446744073709551615) : Nums (pairF a b) := fun j => by
  unfold pairF
  split <;> omega

/-- Two sponges stand side by side; nothing that was there is written. -/
structure Play (w W : World) (sb tb : Nat) (g h : Nat → K) : Prop where
  below : Below w.heap.size w W
  sr : Row W sb 0 3 (numsK g)
  sf : Free W sb 0 3
  tr : Row W tb 0 3 (numsK h)
  tf : Free W tb 0 3
theorem Play.s {w W W1 : World} {sb tb : Nat} {g h g' : Nat → K} (p : Play w W sb tb g h) (hs : w.heap.size ≤ sb) (hne : tb ≠ sb) (ht : Turned sb W W1) (hr : Row W1 sb 0 3 (numsK g')) (hf : Free W1 sb 0 3) : Play w W1 sb tb g' h :=
  ⟨p.below.trans (ht.below hs p.below.size), hr, hf, p.tr.turned ht hne, p.tf.turned p.tr ht hne⟩
theorem Play.t {w W W1 : World} {sb tb : Nat} {g h h' : Nat → K} (p : Play w W sb tb g h) (hs : w.heap.size ≤ tb) (hne : tb ≠ sb) (ht : Turned tb W W1) (hr : Row W1 tb 0 3 (numsK h')) (hf : Free W1 tb 0 3) : Play w W1 sb tb g h' :=
  ⟨p.below.trans (ht.below hs p.below.size), p.sr.turned ht (Ne.symm hne), p.sf.turned p.sr ht (Ne.symm hne), hr, hf⟩

end Go.Proofs.YtnnjajmkfgnhcaaGreatDoor

/-
  Contracts of package sponge's functions, each for every input: they answer what the functions of the text Spong tell; a method turns the sponge's own block, New and Pair write nothing that was there.
-/
namespace Go.Proofs.YtnnjajmkfgnhcaaGreatDoor
open Go.RowKit
set_option linter.unusedVariables false
attribute [local go_sem ↓] Go.wp_at_zero Go.wp_at_succ

theorem pow17_any (a : Int) (w : World) (h0 : 0 ≤ a) (h1 : a ≤ 18446744073709551615) :
    Calls Tryz.prog 96 #[.int .u64 a, .int .u64 17] w fun e w' => e = .returned (.int .u64 (ofK (p17 (kk a)))) ∧ w' = w := by
  have h := pow_any a 17 w h0 h1 (by omega) (by omega)
  rw [show (17 : Int).toNat = 17 from rfl, p17_powQ] at h
  exact h
/-- Three stores, one behind the other. -/
theorem row3 {w : World} {b : Nat} {f : Nat → Int} (hr : Row w b 0 3 f) (hf : Free w b 0 3) (x y z : Int) :
    Turned b w (((w.setCell ⟨b, 0, none⟩ (.int .u64 x)).setCell ⟨b, 1, none⟩ (.int .u64 y)).setCell ⟨b, 2, none⟩ (.int .u64 z)) ∧
    Row (((w.setCell ⟨b, 0, none⟩ (.int .u64 x)).setCell ⟨b, 1, none⟩ (.int .u64 y)).setCell ⟨b, 2, none⟩ (.int .u64 z)) b 0 3 (set3 x y z) ∧
    Free (((w.setCell ⟨b, 0, none⟩ (.int .u64 x)).setCell ⟨b, 1, none⟩ (.int .u64 y)).setCell ⟨b, 2, none⟩ (.int .u64 z)) b 0 3 := by
  have h0 := hr.store 0 x (by omega)
  have h1 := h0.store 1 y (by omega)
  have h2 := h1.store 2 z (by omega)
  rw [Nat.zero_add] at h0 h1 h2
  rw [Nat.zero_add] at h1 h2
  rw [Nat.zero_add] at h2
  refine ⟨(((Turned.refl b w).setCell _ _).setCell _ _).setCell _ _, h2.congr fun j hj => ?_, fun j hj => by rw [World.frozen?_setCell, World.frozen?_setCell, World.frozen?_setCell]; exact hf j hj⟩
  match j, hj with
  | 0, _ => rfl
  | 1, _ => rfl
  | 2, _ => rfl
theorem pow_val (f : Nat → Int) (i j m : Nat) (hm : m = i * (j + 1)) : p17 (kk (addQ (f j) (m : Int))) = powK i (fun k => kk (f k)) j := by
  unfold powK; rw [kk_addQ, hm]; rfl
theorem turn_vals (i : Nat) (g : Nat → K) (j : Nat) (hj : j < 3) : set3 (addQ (addQ (addQ (ofK (powK i g 0)) (ofK (powK i g 1))) (ofK (powK i g 2))) (ofK (powK i g 0))) (addQ (addQ (addQ (ofK (powK i g 0)) (ofK (powK i g 1))) (ofK (powK i g 2))) (ofK (powK i g 1))) (addQ (addQ (addQ (ofK (powK i g 0)) (ofK (powK i g 1))) (ofK (powK i g 2))) (ofK (powK i g 2))) j = numsK (turnK i g) j := by
  unfold numsK turnK
  match j, hj with
  | 0, _ => show addQ _ _ = _; rw [addQ_ofK, kk_addQ, kk_addQ, kk_ofK, kk_ofK, kk_ofK]; congr 1; grind
  | 1, _ => show addQ _ _ = _; rw [addQ_ofK, kk_addQ, kk_addQ, kk_ofK, kk_ofK, kk_ofK]; congr 1; grind
  | 2, _ => show addQ _ _ = _; rw [addQ_ofK, kk_addQ, kk_addQ, kk_ofK, kk_ofK, kk_ofK]; congr 1; grind

set_option maxHeartbeats 400000 in
set_option maxRecDepth 100000 in
theorem turn_any (b i : Nat) (f : Nat → Int) (w : World) (hi : i ≤ 8) (hr : Row w b 0 3 f) (hf : Free w b 0 3) (hv : Nums f) :
    Calls Tryz.prog 118 #[.pointer (some ⟨b, 0, none⟩), .int .u64 (i : Int)] w fun e w' => e = .returned (.tuple #[]) ∧ Turned b w w' ∧ Row w' b 0 3 (numsK (turnK i fun k => kk (f k))) ∧ Free w' b 0 3 := by
  have c0 := hr 0 (by omega)
  have c1 := hr 1 (by omega)
  have c2 := hr 2 (by omega)
  have f0 := hf 0 (by omega)
  have f1 := hf 1 (by omega)
  have f2 := hf 2 (by omega)
  rw [Nat.zero_add] at c0 c1 c2 f0 f1 f2
  have HP0 := hid (pow_val f i 0 i (by omega))
  have HP1 := hid (pow_val f i 1 (2 * i) (by omega))
  have HP2 := hid (pow_val f i 2 (3 * i) (by omega))
  have v0 := hv 0
  have v1 := hv 1
  have v2 := hv 2
  have HR := hid (fun x y z => row3 hr hf x y z)
  have HT := hid (turn_vals i (fun k => kk (f k)))
  have hp0 := HP0.out
  have hp1 := HP1.out
  have hp2 := HP2.out
  have r0 := ofK_rng (powK i (fun k => kk (f k)) 0)
  have r1 := ofK_rng (powK i (fun k => kk (f k)) 1)
  have r2 := ofK_rng (powK i (fun k => kk (f k)) 2)
  obtain ⟨q0, hq0⟩ : ∃ q, powK i (fun k => kk (f k)) 0 = q := ⟨_, rfl⟩
  obtain ⟨q1, hq1⟩ : ∃ q, powK i (fun k => kk (f k)) 1 = q := ⟨_, rfl⟩
  obtain ⟨q2, hq2⟩ : ∃ q, powK i (fun k => kk (f k)) 2 = q := ⟨_, rfl⟩
  rw [hq0] at hp0 r0
  rw [hq1] at hp1 r1
  rw [hq2] at hp2 r2
  have HQ := hid (And.intro hq0 (And.intro hq1 hq2))
  obtain ⟨s0, e0⟩ : ∃ s, f 0 = s := ⟨_, rfl⟩
  obtain ⟨s1, e1⟩ : ∃ s, f 1 = s := ⟨_, rfl⟩
  obtain ⟨s2, e2⟩ : ∃ s, f 2 = s := ⟨_, rfl⟩
  rw [e0] at c0 hp0 v0
  rw [e1] at c1 hp1 v1
  rw [e2] at c2 hp2 v2
  obtain ⟨v00, v01⟩ := v0
  obtain ⟨v10, v11⟩ := v1
  obtain ⟨v20, v21⟩ := v2
  obtain ⟨r00, r01⟩ := r0
  obtain ⟨r10, r11⟩ := r1
  obtain ⟨r20, r21⟩ := r2
  rw [show ((2 * i : Nat) : Int) = 2 * (i : Int) from by omega] at hp1
  rw [show ((3 * i : Nat) : Int) = 3 * (i : Int) from by omega] at hp2
  have HX0 := hid (show ∃ x, addQ s0 (i : Int) = x ∧ 0 ≤ x ∧ x ≤ 2305843009213693950 ∧ p17 (kk x) = q0 from ⟨_, rfl, (addQ_rng _ _).1, (addQ_rng _ _).2, hp0⟩)
  have HX1 := hid (show ∃ x, addQ s1 (2 * (i : Int)) = x ∧ 0 ≤ x ∧ x ≤ 2305843009213693950 ∧ p17 (kk x) = q1 from ⟨_, rfl, (addQ_rng _ _).1, (addQ_rng _ _).2, hp1⟩)
  have HX2 := hid (show ∃ x, addQ s2 (3 * (i : Int)) = x ∧ 0 ≤ x ∧ x ≤ 2305843009213693950 ∧ p17 (kk x) = q2 from ⟨_, rfl, (addQ_rng _ _).1, (addQ_rng _ _).2, hp2⟩)
  clear hr hf hv hp0 hp1 hp2 hq0 hq1 hq2 e0 e1 e2 HP0 HP1 HP2
  obtain ⟨x0, hx0, x00, x01, hk0⟩ := HX0.out
  obtain ⟨x1, hx1, x10, x11, hk1⟩ := HX1.out
  obtain ⟨x2, hx2, x20, x21, hk2⟩ := HX2.out
  have hA0 := fun W => add_any s0 (i : Int) W (by omega) (by omega) (by omega) (by omega)
  have hA1 := fun W => add_any s1 (2 * (i : Int)) W (by omega) (by omega) (by omega) (by omega)
  have hA2 := fun W => add_any s2 (3 * (i : Int)) W (by omega) (by omega) (by omega) (by omega)
  have hB0 := fun W => pow17_any x0 W (by omega) (by omega)
  have hB1 := fun W => pow17_any x1 W (by omega) (by omega)
  have hB2 := fun W => pow17_any x2 W (by omega) (by omega)
  rw [hx0] at hA0
  rw [hx1] at hA1
  rw [hx2] at hA2
  rw [hk0] at hB0
  rw [hk1] at hB1
  rw [hk2] at hB2
  obtain ⟨y0, hy0⟩ : ∃ y, ofK q0 = y := ⟨_, rfl⟩
  obtain ⟨y1, hy1⟩ : ∃ y, ofK q1 = y := ⟨_, rfl⟩
  obtain ⟨y2, hy2⟩ : ∃ y, ofK q2 = y := ⟨_, rfl⟩
  rw [hy0] at hB0 r00 r01
  rw [hy1] at hB1 r10 r11
  rw [hy2] at hB2 r20 r21
  have HA0 := hid hA0
  have HA1 := hid hA1
  have HA2 := hid hA2
  have HB0 := hid hB0
  have HB1 := hid hB1
  have HB2 := hid hB2
  have HY := hid (And.intro hy0 (And.intro hy1 hy2))
  clear HX0 HX1 HX2 hA0 hA1 hA2 hB0 hB1 hB2 hx0 hx1 hx2 hk0 hk1 hk2 hy0 hy1 hy2
  obtain ⟨t0, t1⟩ := addQ_rng y0 y1
  obtain ⟨t2, t3⟩ := addQ_rng (addQ y0 y1) y2
  go_enter Tryz.func118, Tryz.ntmps118
  go_wp2_with fail
  refine (HA0.out _).mono ?_
  rintro e w' ⟨rfl, hw⟩
  obtain rfl := hw.symm
  go_wp2_with fail
  refine (HB0.out _).mono ?_
  rintro e w' ⟨rfl, hw⟩
  obtain rfl := hw.symm
  go_wp2_with fail
  refine (HA1.out _).mono ?_
  rintro e w' ⟨rfl, hw⟩
  obtain rfl := hw.symm
  go_wp2_with fail
  refine (HB1.out _).mono ?_
  rintro e w' ⟨rfl, hw⟩
  obtain rfl := hw.symm
  go_wp2_with fail
  refine (HA2.out _).mono ?_
  rintro e w' ⟨rfl, hw⟩
  obtain rfl := hw.symm
  go_wp2_with fail
  refine (HB2.out _).mono ?_
  rintro e w' ⟨rfl, hw⟩
  obtain rfl := hw.symm
  go_wp2_with (go_at_call 65; refine (add_any _ _ _ (by omega) (by omega) (by omega) (by omega)).mono ?_; rintro e w' ⟨rfl, hw⟩; obtain rfl := hw.symm)
  go_end0
  obtain ⟨rfl, rfl, rfl⟩ := HY.out
  obtain ⟨ht, hr, hf⟩ := HR.out (addQ (addQ (addQ (ofK q0) (ofK q1)) (ofK q2)) (ofK q0)) (addQ (addQ (addQ (ofK q0) (ofK q1)) (ofK q2)) (ofK q1)) (addQ (addQ (addQ (ofK q0) (ofK q1)) (ofK q2)) (ofK q2))
  obtain ⟨rfl, rfl, rfl⟩ := HQ.out
  exact ⟨rfl, ht, hr.congr fun j hj => HT.out j hj, hf⟩

end Go.Proofs.YtnnjajmkfgnhcaaGreatDoor

/-
  Contracts of package sponge's functions, each for every input: mix, takeOne, Take, Give turn the sponge's own block and write nothing else that was there; New and Pair write nothing that was there.
-/
namespace Go.Proofs.YtnnjajmkfgnhcaaGreatDoor
open Go.RowKit
set_option linter.unusedVariables false
attribute [local go_sem ↓] Go.wp_at_zero Go.wp_at_succ

/-- The numbers behind n turns. -/
def mixF (f : Nat → Int) : Nat → Nat → Int
  | 0 => f
  | n + 1 => numsK (mixK (fun k => kk (f k)) (n + 1))
theorem Nums_mixF {f : Nat → Int} (hv : Nums f) (n : Nat) : Nums (mixF f n) := by
  cases n with
  | zero => exact hv
  | succ n => exact Nums_K _
theorem kk_mixF (f : Nat → Int) (n : Nat) : (fun k => kk (mixF f n k)) = mixK (fun k => kk (f k)) n := by
  cases n with
  | zero => rfl
  | succ n => funext k; show kk (ofK _) = _; rw [kk_ofK]
theorem kk_numsK (g : Nat → K) : (fun k => kk (numsK g k)) = g := by funext k; show kk (ofK _) = _; rw [kk_ofK]

set_option maxHeartbeats 1000000 in
set_option maxRecDepth 100000 in
theorem mix_any (b : Nat) (f : Nat → Int) (w : World) (hr : Row w b 0 3 f) (hf : Free w b 0 3) (hv : Nums f) :
    Calls Tryz.prog 115 #[.pointer (some ⟨b, 0, none⟩)] w fun e w' => e = .returned (.tuple #[]) ∧ Turned b w w' ∧ Row w' b 0 3 (numsK (mixed fun k => kk (f k))) ∧ Free w' b 0 3 := by
  have HR := hid hr
  have HF := hid hf
  have HV := hid hv
  clear hr hf hv
  go_enter Tryz.func115, Tryz.ntmps115
  go_wp2_with fail
  go_loopg [2] 8 (fun q i wr => ∃ n : Nat, n ≤ 8 ∧ q = 8 - n ∧ i = .int .u64 ((n : Int) + 1) ∧ Hid (Turned b w wr) ∧ Hid (Row wr b 0 3 (mixF f n)) ∧ Hid (Free wr b 0 3))
  case atStart => exact ⟨0, by omega, rfl, rfl, hid (Turned.refl _ _), HR, HF⟩
  case round =>
    clear HR HF
    obtain ⟨n, hn, rfl, rfl, HTU, HR, HF⟩ := hrel
    by_cases hlt : n < 8
    · have n0 : (n : Int) + 1 ≤ 8 := by omega
      have hT := turn_any b (n + 1) (mixF f n) wr (by omega) HR.out HF.out (Nums_mixF HV.out n)
      rw [kk_mixF, show ((n + 1 : Nat) : Int) = (n : Int) + 1 from by omega] at hT
      have HT := hid hT
      clear hT
      go_wp2_with (go_at_call 118; refine (HT.out).mono ?_; rintro e w1 ⟨rfl, ht, hr, hf⟩; have HT1 := hid ht; have HR1 := hid hr; have HF1 := hid hf; clear ht hr hf)
      go_roundg (8 - (n + 1))
      case measure => go_light; omega
      case rel => exact ⟨n + 1, by omega, rfl, by go_num, hid (HTU.out.trans HT1.out), HR1, HF1⟩
    · have e : n = 8 := by omega
      subst e
      go_wp2_with fail
      go_end0
      exact ⟨rfl, HTU.out, HR.out, HF.out⟩

set_option maxHeartbeats 1000000 in
theorem give_any (b : Nat) (g : Nat → K) (w : World) (hr : Row w b 0 3 (numsK g)) (hf : Free w b 0 3) :
    Calls Tryz.prog 109 #[.pointer (some ⟨b, 0, none⟩)] w fun e w' => e = .returned (.int .u64 (ofK (g 1))) ∧ Turned b w w' ∧ Row w' b 0 3 (numsK (mixed g)) ∧ Free w' b 0 3 := by
  have hM := mix_any b (numsK g) w hr hf (Nums_K g)
  rw [kk_numsK] at hM
  have HM := hid hM
  have c1 := hr 1 (by omega)
  rw [Nat.zero_add] at c1
  obtain ⟨y, hy⟩ : ∃ y, ofK (g 1) = y := ⟨_, rfl⟩
  have hy2 : numsK g 1 = y := hy
  rw [hy2] at c1
  rw [hy]
  clear hr hf hy hy2 hM
  go_enter Tryz.func109, Tryz.ntmps109
  go_wp2_with (go_at_call 115; refine (HM.out).mono ?_; rintro e w1 ⟨rfl, ht, hr, hf⟩; have HT := hid ht; have HR := hid hr; have HF := hid hf; clear ht hr hf)
  go_ret
  exact ⟨rfl, HT.out, HR.out, HF.out⟩

set_option maxHeartbeats 1000000 in
set_option maxRecDepth 100000 in
theorem takeOne_any (b : Nat) (g : Nat → K) (x : Int) (w : World) (hr : Row w b 0 3 (numsK g)) (hf : Free w b 0 3) (x0 : 0 ≤ x) (x1 : x ≤ 18446744073709551615) :
    Calls Tryz.prog 116 #[.pointer (some ⟨b, 0, none⟩), .int .u64 x] w fun e w' => e = .returned (.tuple #[]) ∧ Turned b w w' ∧ Row w' b 0 3 (numsK (takeK g (kk x))) ∧ Free w' b 0 3 := by
  have c1 := hr 0 (by omega)
  have f1 := hf 0 (by omega)
  rw [Nat.zero_add] at c1 f1
  obtain ⟨s, hs⟩ : ∃ s, ofK (g 0) = s := ⟨_, rfl⟩
  have hs2 : numsK g 0 = s := hs
  have sr := ofK_rng (g 0)
  rw [hs] at sr
  rw [hs2] at c1
  obtain ⟨s0, s1⟩ := sr
  have hst := add_row (x := x) hr hf
  rw [hs] at hst
  have hM := mix_any b _ _ hst.1 hst.2 (Nums_K _)
  rw [kk_numsK] at hM
  have HM := hid hM
  clear hr hf hs hs2 hst hM
  go_enter Tryz.func116, Tryz.ntmps116
  go_wp2_with fail
  refine (add_any s x _ (by omega) (by omega) (by omega) (by omega)).mono ?_
  rintro e w' ⟨rfl, hw⟩
  obtain rfl := hw.symm
  go_wp2_with (go_at_call 115; refine (HM.out).mono ?_; rintro e w1 ⟨rfl, ht, hr, hf⟩; have HT := hid ht; have HR := hid hr; have HF := hid hf; clear ht hr hf)
  go_end0
  exact ⟨rfl, ((Turned.refl b _).setCell 0 (.int .u64 (addQ s x))).trans HT.out, HR.out, HF.out⟩

set_option maxHeartbeats 400000 in
theorem take_large (b n cap : Nat) (ao : Option Addr) (w : World) (hn : 1000 < n) :
    Calls Tryz.prog 108 #[.pointer (some ⟨b, 0, none⟩), .slice ao n cap] w fun e w' => e = .returned (.int .i64 2) ∧ w' = w := by
  have h1 : (1000 : Int) < (n : Int) := by omega
  go_enter Tryz.func108, Tryz.ntmps108
  go_wp2_with fail
  go_ret
  exact ⟨rfl, rfl⟩

set_option maxHeartbeats 1000000 in
set_option maxRecDepth 100000 in
theorem take_any (b : Nat) (g : Nat → K) (ao : Option Addr) (n cap : Nat) (f : Nat → Int) (w : World) (hr : Row w b 0 3 (numsK g)) (hf : Free w b 0 3) (hn : n ≤ 1000) (hp : PRow w ao n f) (hv : Nums f) (hne : 0 < n → ∀ c o, ao = some ⟨c, o, none⟩ → c ≠ b) :
    Calls Tryz.prog 108 #[.pointer (some ⟨b, 0, none⟩), .slice ao n cap] w fun e w' => e = .returned (.int .i64 0) ∧ Turned b w w' ∧ Row w' b 0 3 (numsK (takesK g n f n)) ∧ Free w' b 0 3 := by
  have HT0 := hid (takeOne_any b g (n : Int) w hr hf (by omega) (by omega))
  have HP := hid hp
  have HV := hid hv
  have HNE := hid hne
  clear hr hf hp hv hne
  have n1 : ¬ (1000 : Int) < (n : Int) := by omega
  have wn : IntKind.u64.wrap (n : Int) = (n : Int) := by rw [IntKind.wrap_u64]; omega
  go_enter Tryz.func108, Tryz.ntmps108
  go_wp2_with (go_at_call 116; refine (HT0.out).mono ?_; rintro e w1 ⟨rfl, ht, hr, hf⟩; have HT := hid ht; have HR := hid hr; have HF := hid hf; clear ht hr hf)
  go_loopg [17, 6] n (fun q i a wr => ∃ k : Nat, k ≤ n ∧ q = n - k ∧ i = .int .i64 (k : Int) ∧ Hid (Turned b w wr) ∧ Hid (Row wr b 0 3 (numsK (takesK g n f k))) ∧ Hid (Free wr b 0 3))
  case atStart => exact ⟨0, by omega, rfl, rfl, HT, HR, HF⟩
  case round =>
    clear HR HF HT
    obtain ⟨k, hk, rfl, rfl, HTU, HR, HF⟩ := hrel
    by_cases hlt : k < n
    · obtain ⟨bl, ol, rfl, hrl⟩ := HP.out (by omega)
      have cl := (hrl.turned HTU.out (HNE.out (by omega) bl ol rfl)) k (by omega)
      obtain ⟨x, hx⟩ : ∃ x, f k = x := ⟨_, rfl⟩
      have bx := HV.out k
      rw [hx] at cl bx
      obtain ⟨x0, x1⟩ := bx
      have HT1 := hid (takeOne_any b (takesK g n f k) x wr HR.out HF.out x0 x1)
      have HX := hid hx
      clear hrl hx
      have j0 : (0 : Int) ≤ (k : Int) := by omega
      have j1 : (k : Int) < (n : Int) := by omega
      go_wp2_with (go_at_call 116; refine (HT1.out).mono ?_; rintro e w2 ⟨rfl, ht, hr, hf⟩; have HT2 := hid ht; have HR2 := hid hr; have HF2 := hid hf; clear ht hr hf)
      go_roundg (n - (k + 1))
      case measure => go_light; omega
      case rel => exact ⟨k + 1, by omega, rfl, by go_num, hid (HTU.out.trans HT2.out), hid (by rw [takesK, HX.out]; exact HR2.out), HF2⟩
    · have e : k = n := by omega
      subst e
      go_wp2_with fail
      go_ret
      exact ⟨rfl, HTU.out, HR.out, HF.out⟩

set_option maxHeartbeats 1000000 in
theorem new_any (word : Int) (w : World) (h0 : 0 ≤ word) (h1 : word ≤ 18446744073709551615) :
    Calls Tryz.prog 107 #[.int .u64 word] w fun e w' => e = .returned (.pointer (some ⟨w.heap.size, 0, none⟩)) ∧ Below w.heap.size w w' ∧ w.heap.size < w'.heap.size ∧ Row w' w.heap.size 0 3 (numsK (mixed (newK word))) ∧ Free w' w.heap.size 0 3 := by
  obtain ⟨hr, hf⟩ := row_new3 w 0 1 word 167
  have hM := mix_any w.heap.size _ _ hr hf (Nums_set3 (by omega) (by omega) ⟨h0, h1⟩)
  rw [kk_set3] at hM
  have HM := hid hM
  have hlt := hr.lt (by omega)
  have HB : Hid (Below w.heap.size w (w.alloc (.cells #[.int .u64 0, .int .u64 1, .int .u64 word] 167))) := hid ((Below.refl _ w).alloc (Nat.le_refl _) _)
  have HLT := hid hlt
  clear hr hf hM hlt
  go_enter Tryz.func107, Tryz.ntmps107
  go_wp2_with (go_at_call 115; refine (HM.out).mono ?_; rintro e w1 ⟨rfl, ht, hr, hf⟩; have HT := hid ht; have HR := hid hr; have HF := hid hf; clear ht hr hf)
  go_ret
  exact ⟨rfl, HB.out.trans (HT.out.below (Nat.le_refl _) HB.out.size), Nat.lt_of_lt_of_le HLT.out HT.out.size, HR.out, HF.out⟩

set_option maxHeartbeats 1000000 in
set_option maxRecDepth 100000 in
theorem pair_any (a b : Int) (w : World) (h0 : 0 ≤ a) (h1 : a ≤ 18446744073709551615) (g0 : 0 ≤ b) (g1 : b ≤ 18446744073709551615) :
    Calls Tryz.prog 100 #[.int .u64 a, .int .u64 b] w fun e w' => e = .returned (.int .u64 (ofK (pairK a b))) ∧ Below w.heap.size w w' := by
  have HN := hid (new_any 7 w (by omega) (by omega))
  go_enter Tryz.func100, Tryz.ntmps100
  go_wp2_with fail
  refine (HN.out).mono ?_
  rintro e w1 ⟨rfl, hb, hlt, hr, hf⟩
  have hB : Below w1.heap.size w1 (w1.alloc (.cells #[.int .u64 a, .int .u64 b] 31)) := (Below.refl _ w1).alloc (Nat.le_refl _) _
  have hT := take_any w.heap.size _ (some ⟨w1.heap.size, 0, none⟩) 2 2 (pairF a b) _ (hr.kept hB hlt) (hf.kept hB hlt) (by omega) (PRow.of (pair_lit w1 a b 31)) (Nums_pair h0 h1 g0 g1) (fun _ c o e => by injection e with e; injection e with e1 e2; omega)
  have HB : Hid (Below w.heap.size w (w1.alloc (.cells #[.int .u64 a, .int .u64 b] 31))) := hid (hb.trans (hB.mono hb.size))
  have HT := hid hT
  clear hb hr hf hB hT HN
  go_wp2_with fail
  refine (HT.out).mono ?_
  rintro e w2 ⟨rfl, ht, hr, hf⟩
  have HB2 : Hid (Below w.heap.size w w2) := hid (HB.out.trans (ht.below (Nat.le_refl _) HB.out.size))
  have HG := hid (give_any w.heap.size _ w2 hr hf)
  clear ht hr hf HB HT
  go_wp2_with fail
  refine (HG.out).mono ?_
  rintro e w3 ⟨rfl, ht, hr, hf⟩
  have HB3 : Hid (Below w.heap.size w w3) := hid (HB2.out.trans (ht.below (Nat.le_refl _) HB2.out.size))
  clear ht hr hf
  go_wp2_with fail
  go_ret
  exact ⟨rfl, HB3.out⟩

end Go.Proofs.YtnnjajmkfgnhcaaGreatDoor

/-
  Plain: what a new sponge of the word 1 tells first: it is not 0; and Take of a list of whatever length.
-/
namespace Go.Proofs.YtnnjajmkfgnhcaaGreatDoor
open Go.RowKit
set_option linter.unusedVariables false

def v3 (a b c : K) (k : Nat) : K := if k = 0 then a else if k = 1 then b else c
theorem v3_step {g : Nat → K} {n : Nat} {a b c a' b' c' : K} (h : ∀ k, k < 3 → mixK g n k = v3 a b c k) (e : turnK (n + 1) (v3 a b c) 0 = a' ∧ turnK (n + 1) (v3 a b c) 1 = b' ∧ turnK (n + 1) (v3 a b c) 2 = c') : ∀ k, k < 3 → mixK g (n + 1) k = v3 a' b' c' k := by
  intro k hk
  show turnK (n + 1) (mixK g n) k = _
  rw [turnK_congr (n + 1) k hk h]
  match k, hk with
  | 0, _ => exact e.1
  | 1, _ => exact e.2.1
  | 2, _ => exact e.2.2
theorem new_one : mixed (newK 1) 1 = 1669116742769714087 := by
  have h0 : ∀ k, k < 3 → mixK (newK 1) 0 k = v3 0 1 1 k := fun k hk => by
    match k, hk with
    | 0, _ => rfl
    | 1, _ => rfl
    | 2, _ => rfl
  have h1 := v3_step (a' := 17309009349) (b' := 17438149511) (c' := 34488878532) h0 (by decide +kernel)
  have h2 := v3_step (a' := 1573814559549188993) (b' := 715743805754807860) (c' := 1788218144668059710) h1 (by decide +kernel)
  have h3 := v3_step (a' := 216506331245268182) (b' := 1400893509095417574) (c' := 2001818938228197229) h2 (by decide +kernel)
  have h4 := v3_step (a' := 487761997562441572) (b' := 1609402419519888973) (c' := 2260444883116086776) h3 (by decide +kernel)
  have h5 := v3_step (a' := 644698438108695660) (b' := 1719309461503627782) (c' := 1699817507873481296) h4 (by decide +kernel)
  have h6 := v3_step (a' := 1938174909269888829) (b' := 1259100607534908340) (c' := 2127548290031924251) h5 (by decide +kernel)
  have h7 := v3_step (a' := 2209722413685827084) (b' := 1500207906989657873) (c' := 986607135423452686) h6 (by decide +kernel)
  have h8 := v3_step (a' := 2131637896081591315) (b' := 1669116742769714087) (c' := 80801863418079052) h7 (by decide +kernel)
  exact h8 1 (by omega)
theorem new_one_ne : ofK (mixed (newK 1) 1) ≠ 0 := by rw [new_one]; decide +kernel

/-- What Take answers of a list of n numbers, and what the sponge's numbers are behind it. -/
def tkE (n : Nat) : Int := if n ≤ 1000 then 0 else 2
def tkK (g : Nat → K) (n : Nat) (f : Nat → Int) : Nat → K := if n ≤ 1000 then takesK g n f n else g
theorem take_all (b : Nat) (g : Nat → K) (ao : Option Addr) (n cap : Nat) (f : Nat → Int) (w : World) (hr : Row w b 0 3 (numsK g)) (hf : Free w b 0 3) (hp : PRow w ao n f) (hv : Nums f) (hne : 0 < n → ∀ c o, ao = some ⟨c, o, none⟩ → c ≠ b) :
    Calls Tryz.prog 108 #[.pointer (some ⟨b, 0, none⟩), .slice ao n cap] w fun e w' => e = .returned (.int .i64 (tkE n)) ∧ Turned b w w' ∧ Row w' b 0 3 (numsK (tkK g n f)) ∧ Free w' b 0 3 := by
  unfold tkE tkK
  by_cases h : n ≤ 1000
  · rw [if_pos h, if_pos h]
    exact take_any b g ao n cap f w hr hf h hp hv hne
  · rw [if_neg h, if_neg h]
    refine (take_large b n cap ao w (by omega)).mono ?_
    rintro e w' ⟨rfl, rfl⟩
    exact ⟨rfl, Turned.refl _ _, hr, hf⟩

end Go.Proofs.YtnnjajmkfgnhcaaGreatDoor

/-
  Plain: a right circuit's numbers, as the laws ask for them; no program in it.
-/
namespace Go.Proofs.YtnnjajmkfgnhcaaGreatDoor
open Go.RowKit
set_option linter.unusedVariables false

/-- A right circuit's numbers, as the laws ask for them. -/
theorem right_nums {c : CQ} {g : Int} {n : Nat} (hg : c.log = g) (hn : c.layers.length = n) (hc : c.right) : ∃ gn N : Nat, g = (gn : Int) ∧ gn ≤ 4 ∧ wrap64 ((2 : Int) ^ gn) = (N : Int) ∧ lenQ c 0 = N ∧ 1 ≤ N ∧ N ≤ 16 ∧ N = 2 ^ (partsQ c).lg n := by
  obtain ⟨gn, h1⟩ : ∃ gn : Nat, g = (gn : Int) := ⟨g.toNat, by have := hc.log; omega⟩
  have g4 : gn ≤ 4 := by have := hc.log; omega
  have e : lenQ c 0 = 2 ^ gn := by
    show 2 ^ (c.log).toNat = 2 ^ gn
    rw [hg, h1, Int.toNat_natCast]
  have hr := lenQ_rng hc 0 (by omega)
  rw [e] at hr
  refine ⟨gn, 2 ^ gn, h1, g4, shl_pow (by omega), e, hr.1, hr.2, ?_⟩
  rw [lg_bot (k := gn) hn (by show c.log = _; rw [hg, h1])]
theorem top_len {c : CQ} {n : Nat} (hn : c.layers.length = n) : lenQ c n = 2 ^ (partsQ c).lg 0 := by
  show 2 ^ (belowQ c n).toNat = 2 ^ (belowQ c (c.layers.length - 0)).toNat
  rw [hn, Nat.sub_zero]

end Go.Proofs.YtnnjajmkfgnhcaaGreatDoor
