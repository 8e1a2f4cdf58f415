/-
  Several texts in one: Spong, Spg, Spg2, Spg3, FiatK, FiatM, FiatW, Fiat1, Fiat2, Fiat3, Fiat4, GkrN, Fil0; each opens with what it holds.
-/
import Derived.Test.YtbchbmelofojkaaGreatDoorMulti
import Derived.Test.YtbchbmelofojkaaGreatDoorMem
import Derived.Test.YtbchbmelofojkaaGreatDoorChecked
import Derived.Test.YtbchbmelofojkaaGreatDoorOwn
import Derived.Test.YtbchbmelofojkaaGreatDoorField
import Derived.WalkKit
import Derived.Deep.LoopGhost
import Derived.Deep.Light
import Derived.Deep.OwnRows
import Derived.Deep.DrawnRows
import Derived.Test.YtbchbmelofojkaaGreatDoorMGkA
import Derived.Test.YtbchbmelofojkaaGreatDoorGkrQ
import Derived.Test.YtbchbmelofojkaaGreatDoorCircL
import Derived.Test.YtbchbmelofojkaaGreatDoorKeep
import Derived.Deep.RegionHeld3
import Derived.Test.YtbchbmelofojkaaGreatDoorMGkB
/-
  Plain: the sponge's three numbers as rests: a turn, mixing, taking; and what a call leaves that turns one block alone; no program in it.
-/
namespace Go.Proofs.YtbchbmelofojkaaGreatDoor
open Go.RowKit
set_option linter.unusedVariables false

def sqK (a : K) : Nat → K
  | 0 => a
  | n + 1 => sqK a n * sqK a n
/-- The 17th power: four squares, and once more. -/
def p17 (a : K) : K := sqK a 4 * a
/-- What number j has become in turn i, ahead of the sums. -/
def powK (i : Nat) (g : Nat → K) (j : Nat) : K := p17 (g j + kn (i * (j + 1)))
/-- Turn i. -/
def turnK (i : Nat) (g : Nat → K) (k : Nat) : K := powK i g 0 + powK i g 1 + (powK i g 2 + powK i g k)
/-- The first n turns. -/
def mixK (g : Nat → K) : Nat → Nat → K
  | 0 => g
  | n + 1 => turnK (n + 1) (mixK g n)
def mixed (g : Nat → K) : Nat → K := mixK g 8
/-- A new sponge's numbers, ahead of mixing. -/
def newK (word : Int) (k : Nat) : K := if k = 0 then 0 else if k = 1 then 1 else kk word
/-- The number x is taken. -/
def addK (g : Nat → K) (x : K) (k : Nat) : K := if k = 0 then g 0 + x else g k
def takeK (g : Nat → K) (x : K) : Nat → K := mixed (addK g x)
/-- How many there are, and the first k numbers of a list. -/
def takesK (g : Nat → K) (n : Nat) (f : Nat → Int) : Nat → Nat → K
  | 0 => takeK g (kn n)
  | k + 1 => takeK (takesK g n f k) (kk (f k))
theorem turnK_congr {g h : Nat → K} (i k : Nat) (hk : k < 3) (e : ∀ j, j < 3 → g j = h j) : turnK i g k = turnK i h k := by
  unfold turnK powK
  rw [e 0 (by omega), e 1 (by omega), e 2 (by omega), e k hk]
theorem mixK_congr {g h : Nat → K} (n : Nat) : ∀ k, k < 3 → (∀ j, j < 3 → g j = h j) → mixK g n k = mixK h n k := by
  induction n with
  | zero => exact fun k hk e => e k hk
  | succ n ih => exact fun k hk e => turnK_congr (n + 1) k hk fun j hj => ih j hj e
/-- The numbers as they lie in memory. -/
def numsK (g : Nat → K) (k : Nat) : Int := ofK (g k)
theorem Nums_K (g : Nat → K) : Nums (numsK g) := fun k => ofK_u64 _
theorem numsK_rng (g : Nat → K) (k : Nat) : 0 ≤ numsK g k ∧ numsK g k ≤ 2305843009213693950 := ofK_rng _

/-- w' is w, but for block b, and for what is new. -/
structure Turned (b : Nat) (w w' : World) : Prop where
  os : w'.os = w.os
  tape : w'.tape = w.tape
  output : w'.output = w.output
  size : w.heap.size ≤ w'.heap.size
  block : ∀ k, k < w.heap.size → k ≠ b → w'.heap[k]? = w.heap[k]?
theorem Turned.refl (b : Nat) (w : World) : Turned b w w := ⟨rfl, rfl, rfl, Nat.le_refl _, fun _ _ _ => rfl⟩
theorem Turned.trans {b : Nat} {w w' w'' : World} (h : Turned b w w') (g : Turned b w' w'') : Turned b w w'' :=
  ⟨g.os.trans h.os, g.tape.trans h.tape, g.output.trans h.output, Nat.le_trans h.size g.size, fun k hk hb => (g.block k (Nat.lt_of_lt_of_le hk h.size) hb).trans (h.block k hk hb)⟩
theorem Turned.drew {b : Nat} {w w' : World} (h : Turned b w w') : Turned b w w'.drew := ⟨h.os, h.tape, h.output, h.size, h.block⟩
theorem Turned.of_below {b : Nat} {w w' : World} (h : Below w.heap.size w w') : Turned b w w' := ⟨h.os, h.tape, h.output, h.size, fun k hk _ => h.block k hk⟩
theorem Turned.below {b B : Nat} {w w' : World} (h : Turned b w w') (hB : B ≤ b) (hw : B ≤ w.heap.size) : Below B w w' := ⟨h.os, h.tape, h.output, h.size, fun k hk => h.block k (by omega) (by omega)⟩
theorem Turned.of_wrote {b o n : Nat} {w w' : World} (h : Wrote b o n w w') : Turned b w w' := ⟨h.os, h.tape, h.output, by rw [h.size]; exact Nat.le_refl _, fun k _ hb => h.block k hb⟩
theorem Turned.setCell {b : Nat} {w w' : World} (h : Turned b w w') (p : Nat) (u : Value) : Turned b w (w'.setCell ⟨b, p, none⟩ u) :=
  ⟨h.os, h.tape, h.output, by rw [World.size_setCell]; exact h.size, fun k hk hb => by rw [Below.heap_setCell _ _ _ _ hb]; exact h.block k hk hb⟩
theorem Row.turned {b c o n : Nat} {f : Nat → Int} {w w' : World} (h : Row w c o n f) (g : Turned b w w') (hb : c ≠ b) : Row w' c o n f := fun j hj =>
  (World.cell?_of_block (w := w) (g.block c (World.block_lt_of_cell? w _ (h j hj)) hb)).trans (h j hj)
theorem Free.turned {b c o n : Nat} {f : Nat → Int} {w w' : World} (h : Free w c o n) (hr : Row w c o n f) (g : Turned b w w') (hb : c ≠ b) : Free w' c o n := fun j hj => by
  have hl : c < w.heap.size := World.block_lt_of_cell? w _ (hr j hj)
  have e := h j hj
  unfold World.frozen? at e ⊢
  rw [g.block c hl hb]
  exact e

/-- The 17th power as package field reckons it. -/
theorem p17_powQ (x : Int) : powQ x 17 = ofK (p17 (kk x)) := by
  have h2 : kk (powQ x 2) = sqK (kk x) 1 := by rw [show 2 = 1 + 1 from rfl, powQ_add, kk_mulQ, powQ_one, kk_nrm]; rfl
  have h4 : kk (powQ x 4) = sqK (kk x) 2 := by rw [show 4 = 2 + 2 from rfl, powQ_add, kk_mulQ, h2]; rfl
  have h8 : kk (powQ x 8) = sqK (kk x) 3 := by rw [show 8 = 4 + 4 from rfl, powQ_add, kk_mulQ, h4]; rfl
  have h16 : kk (powQ x 16) = sqK (kk x) 4 := by rw [show 16 = 8 + 8 from rfl, powQ_add, kk_mulQ, h8]; rfl
  refine eq_ofK (powQ_rng x 17).1 (powQ_rng x 17).2 ?_
  rw [show 17 = 16 + 1 from rfl, powQ_add, kk_mulQ, h16, powQ_one, kk_nrm]; rfl
/-- What Pair makes of two numbers. -/
def pairF (a b : Int) (j : Nat) : Int := if j = 0 then a else b
def pairK (a b : Int) : K := takesK (mixed (newK 7)) 2 (pairF a b) 2 1
theorem takesK_congr {g : Nat → K} (n : Nat) {f f' : Nat → Int} (m : Nat) (h : ∀ j, j < m → kk (f j) = kk (f' j)) : takesK g n f m = takesK g n f' m := by
  induction m with
  | zero => rfl
  | succ m ih => rw [takesK, takesK, ih fun j hj => h j (by omega), h m (by omega)]
theorem pairK_congr {a b c d : Int} (h : kk a = kk c) (g : kk b = kk d) : pairK a b = pairK c d := by
  unfold pairK
  rw [takesK_congr 2 2 (f := pairF a b) (f' := pairF c d) fun j _ => by
    unfold pairF
    by_cases e : j = 0
    · rw [if_pos e, if_pos e, h]
    · rw [if_neg e, if_neg e, g]]
theorem newK_congr {a b : Int} (h : kk a = kk b) : newK a = newK b := by unfold newK; rw [h]
theorem add_row {w : World} {b : Nat} {g : Nat → K} {x : Int} (hr : Row w b 0 3 (numsK g)) (hf : Free w b 0 3) : Row (w.setCell ⟨b, 0, none⟩ (.int .u64 (addQ (ofK (g 0)) x))) b 0 3 (numsK (addK g (kk x))) ∧ Free (w.setCell ⟨b, 0, none⟩ (.int .u64 (addQ (ofK (g 0)) x))) b 0 3 := by
  have hs := hr.store 0 (addQ (ofK (g 0)) x) (by omega)
  rw [Nat.zero_add] at hs
  refine ⟨hs.congr fun j hj => ?_, fun j hj => by rw [World.frozen?_setCell]; exact hf j hj⟩
  unfold numsK addK
  by_cases e : j = 0
  · rw [if_pos e, if_pos e, addQ_ofK, kk_ofK]
  · rw [if_neg e, if_neg e]
/-- Three numbers. -/
def set3 (x y z : Int) (j : Nat) : Int := if j = 0 then x else if j = 1 then y else z
theorem row_new3 (w : World) (x y z : Int) (t : TypeId) : Row (w.alloc (.cells #[.int .u64 x, .int .u64 y, .int .u64 z] t)) w.heap.size 0 3 (set3 x y z) ∧ Free (w.alloc (.cells #[.int .u64 x, .int .u64 y, .int .u64 z] t)) w.heap.size 0 3 := by
  refine ⟨fun j hj => ?_, fun j _ => ?_⟩
  · rw [Nat.zero_add, World.cell?_alloc_new]
    match j, hj with
    | 0, _ => rfl
    | 1, _ => rfl
    | 2, _ => rfl
  · rw [Nat.zero_add, World.frozen?_alloc_new]
theorem kk_set3 (word : Int) : (fun k => kk (set3 0 1 word k)) = newK word := by
  funext k
  unfold set3 newK
  by_cases h0 : k = 0
  · rw [if_pos h0, if_pos h0]; rfl
  · rw [if_neg h0, if_neg h0]
    by_cases h1 : k = 1
    · rw [if_pos h1, if_pos h1]; rfl
    · rw [if_neg h1, if_neg h1]
theorem Nums_set3 {x y z : Int} (hx : 0 ≤ x ∧ x ≤ 18446744073709551615) (hy : 0 ≤ y ∧ y ≤ 18446744073709551615) (hz : 0 ≤ z ∧ z ≤ 18446744073709551615) : Nums (set3 x y z) := fun j => by
  unfold set3
  split
  · exact hx
  · split
    · exact hy
    · exact hz
theorem pair_lit (w : World) (a b : Int) (t : TypeId) : Row (w.alloc (.cells #[.int .u64 a, .int .u64 b] t)) w.heap.size 0 2 (pairF a b) := by
  intro j hj
  rw [Nat.zero_add, World.cell?_alloc_new]
  match j, hj with
  | 0, _ => rfl
  | 1, _ => rfl
theorem Nums_pair {a b : Int} (h0 : 0 ≤ a) (h1 : a ≤ 18446744073709551615) (g0 : 0 ≤ b) (g1 : b ≤ 18446744073709551615) : Nums (pairF a b) := fun j => by
  unfold pairF
  split <;> omega

/-- Two sponges stand side by side; nothing that was there is written. -/
structure Play (w W : World) (sb tb : Nat) (g h : Nat → K) : Prop where
  below : Below w.heap.size w W
  sr : Row W sb 0 3 (numsK g)
  sf : Free W sb 0 3
  tr : Row W tb 0 3 (numsK h)
  tf : Free W tb 0 3
theorem Play.s {w W W1 : World} {sb tb : Nat} {g h g' : Nat → K} (p : Play w W sb tb g h) (hs : w.heap.size ≤ sb) (hne : tb ≠ sb) (ht : Turned sb W W1) (hr : Row W1 sb 0 3 (numsK g')) (hf : Free W1 sb 0 3) : Play w W1 sb tb g' h :=
  ⟨p.below.trans (ht.below hs p.below.size), hr, hf, p.tr.turned ht hne, p.tf.turned p.tr ht hne⟩
theorem Play.t {w W W1 : World} {sb tb : Nat} {g h h' : Nat → K} (p : Play w W sb tb g h) (hs : w.heap.size ≤ tb) (hne : tb ≠ sb) (ht : Turned tb W W1) (hr : Row W1 tb 0 3 (numsK h')) (hf : Free W1 tb 0 3) : Play w W1 sb tb g h' :=
  ⟨p.below.trans (ht.below hs p.below.size), p.sr.turned ht (Ne.symm hne), p.sf.turned p.sr ht (Ne.symm hne), hr, hf⟩

end Go.Proofs.YtbchbmelofojkaaGreatDoor

/-
  Contracts of package sponge's functions, each for every input: they answer what the functions of the text Spong tell; a method turns the sponge's own block, New and Pair write nothing that was there.
-/
namespace Go.Proofs.YtbchbmelofojkaaGreatDoor
open Go.RowKit
set_option linter.unusedVariables false
attribute [local go_sem ↓] Go.wp_at_zero Go.wp_at_succ

theorem pow17_any (a : Int) (w : World) (h0 : 0 ≤ a) (h1 : a ≤ 18446744073709551615) :
    Calls Tryz.prog 113 #[.int .u64 a, .int .u64 17] w fun e w' => e = .returned (.int .u64 (ofK (p17 (kk a)))) ∧ w' = w := by
  have h := pow_any a 17 w h0 h1 (by omega) (by omega)
  rw [show (17 : Int).toNat = 17 from rfl, p17_powQ] at h
  exact h
/-- Three stores, one behind the other. -/
theorem row3 {w : World} {b : Nat} {f : Nat → Int} (hr : Row w b 0 3 f) (hf : Free w b 0 3) (x y z : Int) :
    Turned b w (((w.setCell ⟨b, 0, none⟩ (.int .u64 x)).setCell ⟨b, 1, none⟩ (.int .u64 y)).setCell ⟨b, 2, none⟩ (.int .u64 z)) ∧
    Row (((w.setCell ⟨b, 0, none⟩ (.int .u64 x)).setCell ⟨b, 1, none⟩ (.int .u64 y)).setCell ⟨b, 2, none⟩ (.int .u64 z)) b 0 3 (set3 x y z) ∧
    Free (((w.setCell ⟨b, 0, none⟩ (.int .u64 x)).setCell ⟨b, 1, none⟩ (.int .u64 y)).setCell ⟨b, 2, none⟩ (.int .u64 z)) b 0 3 := by
  have h0 := hr.store 0 x (by omega)
  have h1 := h0.store 1 y (by omega)
  have h2 := h1.store 2 z (by omega)
  rw [Nat.zero_add] at h0 h1 h2
  rw [Nat.zero_add] at h1 h2
  rw [Nat.zero_add] at h2
  refine ⟨(((Turned.refl b w).setCell _ _).setCell _ _).setCell _ _, h2.congr fun j hj => ?_, fun j hj => by rw [World.frozen?_setCell, World.frozen?_setCell, World.frozen?_setCell]; exact hf j hj⟩
  match j, hj with
  | 0, _ => rfl
  | 1, _ => rfl
  | 2, _ => rfl
theorem pow_val (f : Nat → Int) (i j m : Nat) (hm : m = i * (j + 1)) : p17 (kk (addQ (f j) (m : Int))) = powK i (fun k => kk (f k)) j := by
  unfold powK; rw [kk_addQ, hm]; rfl
theorem turn_vals (i : Nat) (g : Nat → K) (j : Nat) (hj : j < 3) : set3 (addQ (addQ (addQ (ofK (powK i g 0)) (ofK (powK i g 1))) (ofK (powK i g 2))) (ofK (powK i g 0))) (addQ (addQ (addQ (ofK (powK i g 0)) (ofK (powK i g 1))) (ofK (powK i g 2))) (ofK (powK i g 1))) (addQ (addQ (addQ (ofK (powK i g 0)) (ofK (powK i g 1))) (ofK (powK i g 2))) (ofK (powK i g 2))) j = numsK (turnK i g) j := by
  unfold numsK turnK
  match j, hj with
  | 0, _ => show addQ _ _ = _; rw [addQ_ofK, kk_addQ, kk_addQ, kk_ofK, kk_ofK, kk_ofK]; congr 1; grind
  | 1, _ => show addQ _ _ = _; rw [addQ_ofK, kk_addQ, kk_addQ, kk_ofK, kk_ofK, kk_ofK]; congr 1; grind
  | 2, _ => show addQ _ _ = _; rw [addQ_ofK, kk_addQ, kk_addQ, kk_ofK, kk_ofK, kk_ofK]; congr 1; grind

set_option maxHeartbeats 400000 in
set_option maxRecDepth 100000 in
theorem turn_any (b i : Nat) (f : Nat → Int) (w : World) (hi : i ≤ 8) (hr : Row w b 0 3 f) (hf : Free w b 0 3) (hv : Nums f) :
    Calls Tryz.prog 98 #[.pointer (some ⟨b, 0, none⟩), .int .u64 (i : Int)] w fun e w' => e = .returned (.tuple #[]) ∧ Turned b w w' ∧ Row w' b 0 3 (numsK (turnK i fun k => kk (f k))) ∧ Free w' b 0 3 := by
  have c0 := hr 0 (by omega)
  have c1 := hr 1 (by omega)
  have c2 := hr 2 (by omega)
  have f0 := hf 0 (by omega)
  have f1 := hf 1 (by omega)
  have f2 := hf 2 (by omega)
  rw [Nat.zero_add] at c0 c1 c2 f0 f1 f2
  have HP0 := hid (pow_val f i 0 i (by omega))
  have HP1 := hid (pow_val f i 1 (2 * i) (by omega))
  have HP2 := hid (pow_val f i 2 (3 * i) (by omega))
  have v0 := hv 0
  have v1 := hv 1
  have v2 := hv 2
  have HR := hid (fun x y z => row3 hr hf x y z)
  have HT := hid (turn_vals i (fun k => kk (f k)))
  have hp0 := HP0.out
  have hp1 := HP1.out
  have hp2 := HP2.out
  have r0 := ofK_rng (powK i (fun k => kk (f k)) 0)
  have r1 := ofK_rng (powK i (fun k => kk (f k)) 1)
  have r2 := ofK_rng (powK i (fun k => kk (f k)) 2)
  obtain ⟨q0, hq0⟩ : ∃ q, powK i (fun k => kk (f k)) 0 = q := ⟨_, rfl⟩
  obtain ⟨q1, hq1⟩ : ∃ q, powK i (fun k => kk (f k)) 1 = q := ⟨_, rfl⟩
  obtain ⟨q2, hq2⟩ : ∃ q, powK i (fun k => kk (f k)) 2 = q := ⟨_, rfl⟩
  rw [hq0] at hp0 r0
  rw [hq1] at hp1 r1
  rw [hq2] at hp2 r2
  have HQ := hid (And.intro hq0 (And.intro hq1 hq2))
  obtain ⟨s0, e0⟩ : ∃ s, f 0 = s := ⟨_, rfl⟩
  obtain ⟨s1, e1⟩ : ∃ s, f 1 = s := ⟨_, rfl⟩
  obtain ⟨s2, e2⟩ : ∃ s, f 2 = s := ⟨_, rfl⟩
  rw [e0] at c0 hp0 v0
  rw [e1] at c1 hp1 v1
  rw [e2] at c2 hp2 v2
  obtain ⟨v00, v01⟩ := v0
  obtain ⟨v10, v11⟩ := v1
  obtain ⟨v20, v21⟩ := v2
  obtain ⟨r00, r01⟩ := r0
  obtain ⟨r10, r11⟩ := r1
  obtain ⟨r20, r21⟩ := r2
  rw [show ((2 * i : Nat) : Int) = 2 * (i : Int) from by omega] at hp1
  rw [show ((3 * i : Nat) : Int) = 3 * (i : Int) from by omega] at hp2
  have HX0 := hid (show ∃ x, addQ s0 (i : Int) = x ∧ 0 ≤ x ∧ x ≤ 2305843009213693950 ∧ p17 (kk x) = q0 from ⟨_, rfl, (addQ_rng _ _).1, (addQ_rng _ _).2, hp0⟩)
  have HX1 := hid (show ∃ x, addQ s1 (2 * (i : Int)) = x ∧ 0 ≤ x ∧ x ≤ 2305843009213693950 ∧ p17 (kk x) = q1 from ⟨_, rfl, (addQ_rng _ _).1, (addQ_rng _ _).2, hp1⟩)
  have HX2 := hid (show ∃ x, addQ s2 (3 * (i : Int)) = x ∧ 0 ≤ x ∧ x ≤ 2305843009213693950 ∧ p17 (kk x) = q2 from ⟨_, rfl, (addQ_rng _ _).1, (addQ_rng _ _).2, hp2⟩)
  clear hr hf hv hp0 hp1 hp2 hq0 hq1 hq2 e0 e1 e2 HP0 HP1 HP2
  obtain ⟨x0, hx0, x00, x01, hk0⟩ := HX0.out
  obtain ⟨x1, hx1, x10, x11, hk1⟩ := HX1.out
  obtain ⟨x2, hx2, x20, x21, hk2⟩ := HX2.out
  have hA0 := fun W => add_any s0 (i : Int) W (by omega) (by omega) (by omega) (by omega)
  have hA1 := fun W => add_any s1 (2 * (i : Int)) W (by omega) (by omega) (by omega) (by omega)
  have hA2 := fun W => add_any s2 (3 * (i : Int)) W (by omega) (by omega) (by omega) (by omega)
  have hB0 := fun W => pow17_any x0 W (by omega) (by omega)
  have hB1 := fun W => pow17_any x1 W (by omega) (by omega)
  have hB2 := fun W => pow17_any x2 W (by omega) (by omega)
  rw [hx0] at hA0
  rw [hx1] at hA1
  rw [hx2] at hA2
  rw [hk0] at hB0
  rw [hk1] at hB1
  rw [hk2] at hB2
  obtain ⟨y0, hy0⟩ : ∃ y, ofK q0 = y := ⟨_, rfl⟩
  obtain ⟨y1, hy1⟩ : ∃ y, ofK q1 = y := ⟨_, rfl⟩
  obtain ⟨y2, hy2⟩ : ∃ y, ofK q2 = y := ⟨_, rfl⟩
  rw [hy0] at hB0 r00 r01
  rw [hy1] at hB1 r10 r11
  rw [hy2] at hB2 r20 r21
  have HA0 := hid hA0
  have HA1 := hid hA1
  have HA2 := hid hA2
  have HB0 := hid hB0
  have HB1 := hid hB1
  have HB2 := hid hB2
  have HY := hid (And.intro hy0 (And.intro hy1 hy2))
  clear HX0 HX1 HX2 hA0 hA1 hA2 hB0 hB1 hB2 hx0 hx1 hx2 hk0 hk1 hk2 hy0 hy1 hy2
  obtain ⟨t0, t1⟩ := addQ_rng y0 y1
  obtain ⟨t2, t3⟩ := addQ_rng (addQ y0 y1) y2
  go_enter Tryz.func98, Tryz.ntmps98
  go_wp2_with fail
  refine (HA0.out _).mono ?_
  rintro e w' ⟨rfl, hw⟩
  obtain rfl := hw.symm
  go_wp2_with fail
  refine (HB0.out _).mono ?_
  rintro e w' ⟨rfl, hw⟩
  obtain rfl := hw.symm
  go_wp2_with fail
  refine (HA1.out _).mono ?_
  rintro e w' ⟨rfl, hw⟩
  obtain rfl := hw.symm
  go_wp2_with fail
  refine (HB1.out _).mono ?_
  rintro e w' ⟨rfl, hw⟩
  obtain rfl := hw.symm
  go_wp2_with fail
  refine (HA2.out _).mono ?_
  rintro e w' ⟨rfl, hw⟩
  obtain rfl := hw.symm
  go_wp2_with fail
  refine (HB2.out _).mono ?_
  rintro e w' ⟨rfl, hw⟩
  obtain rfl := hw.symm
  go_wp2_with (go_at_call 77; refine (add_any _ _ _ (by omega) (by omega) (by omega) (by omega)).mono ?_; rintro e w' ⟨rfl, hw⟩; obtain rfl := hw.symm)
  go_end0
  obtain ⟨rfl, rfl, rfl⟩ := HY.out
  obtain ⟨ht, hr, hf⟩ := HR.out (addQ (addQ (addQ (ofK q0) (ofK q1)) (ofK q2)) (ofK q0)) (addQ (addQ (addQ (ofK q0) (ofK q1)) (ofK q2)) (ofK q1)) (addQ (addQ (addQ (ofK q0) (ofK q1)) (ofK q2)) (ofK q2))
  obtain ⟨rfl, rfl, rfl⟩ := HQ.out
  exact ⟨rfl, ht, hr.congr fun j hj => HT.out j hj, hf⟩

end Go.Proofs.YtbchbmelofojkaaGreatDoor

/-
  Contracts of package sponge's functions, each for every input: mix, takeOne, Take, Give turn the sponge's own block and write nothing else that was there; New and Pair write nothing that was there.
-/
namespace Go.Proofs.YtbchbmelofojkaaGreatDoor
open Go.RowKit
set_option linter.unusedVariables false
attribute [local go_sem ↓] Go.wp_at_zero Go.wp_at_succ

/-- The numbers behind n turns. -/
def mixF (f : Nat → Int) : Nat → Nat → Int
  | 0 => f
  | n + 1 => numsK (mixK (fun k => kk (f k)) (n + 1))
theorem Nums_mixF {f : Nat → Int} (hv : Nums f) (n : Nat) : Nums (mixF f n) := by
  cases n with
  | zero => exact hv
  | succ n => exact Nums_K _
theorem kk_mixF (f : Nat → Int) (n : Nat) : (fun k => kk (mixF f n k)) = mixK (fun k => kk (f k)) n := by
  cases n with
  | zero => rfl
  | succ n => funext k; show kk (ofK _) = _; rw [kk_ofK]
theorem kk_numsK (g : Nat → K) : (fun k => kk (numsK g k)) = g := by funext k; show kk (ofK _) = _; rw [kk_ofK]

set_option maxHeartbeats 1000000 in
set_option maxRecDepth 100000 in
theorem mix_any (b : Nat) (f : Nat → Int) (w : World) (hr : Row w b 0 3 f) (hf : Free w b 0 3) (hv : Nums f) :
    Calls Tryz.prog 65 #[.pointer (some ⟨b, 0, none⟩)] w fun e w' => e = .returned (.tuple #[]) ∧ Turned b w w' ∧ Row w' b 0 3 (numsK (mixed fun k => kk (f k))) ∧ Free w' b 0 3 := by
  have HR := hid hr
  have HF := hid hf
  have HV := hid hv
  clear hr hf hv
  go_enter Tryz.func65, Tryz.ntmps65
  go_wp2_with fail
  go_loopg [2] 8 (fun q i wr => ∃ n : Nat, n ≤ 8 ∧ q = 8 - n ∧ i = .int .u64 ((n : Int) + 1) ∧ Hid (Turned b w wr) ∧ Hid (Row wr b 0 3 (mixF f n)) ∧ Hid (Free wr b 0 3))
  case atStart => exact ⟨0, by omega, rfl, rfl, hid (Turned.refl _ _), HR, HF⟩
  case round =>
    clear HR HF
    obtain ⟨n, hn, rfl, rfl, HTU, HR, HF⟩ := hrel
    by_cases hlt : n < 8
    · have n0 : (n : Int) + 1 ≤ 8 := by omega
      have hT := turn_any b (n + 1) (mixF f n) wr (by omega) HR.out HF.out (Nums_mixF HV.out n)
      rw [kk_mixF, show ((n + 1 : Nat) : Int) = (n : Int) + 1 from by omega] at hT
      have HT := hid hT
      clear hT
      go_wp2_with (go_at_call 98; refine (HT.out).mono ?_; rintro e w1 ⟨rfl, ht, hr, hf⟩; have HT1 := hid ht; have HR1 := hid hr; have HF1 := hid hf; clear ht hr hf)
      go_roundg (8 - (n + 1))
      case measure => go_light; omega
      case rel => exact ⟨n + 1, by omega, rfl, by go_num, hid (HTU.out.trans HT1.out), HR1, HF1⟩
    · have e : n = 8 := by omega
      subst e
      go_wp2_with fail
      go_end0
      exact ⟨rfl, HTU.out, HR.out, HF.out⟩

set_option maxHeartbeats 1000000 in
theorem give_any (b : Nat) (g : Nat → K) (w : World) (hr : Row w b 0 3 (numsK g)) (hf : Free w b 0 3) :
    Calls Tryz.prog 129 #[.pointer (some ⟨b, 0, none⟩)] w fun e w' => e = .returned (.int .u64 (ofK (g 1))) ∧ Turned b w w' ∧ Row w' b 0 3 (numsK (mixed g)) ∧ Free w' b 0 3 := by
  have hM := mix_any b (numsK g) w hr hf (Nums_K g)
  rw [kk_numsK] at hM
  have HM := hid hM
  have c1 := hr 1 (by omega)
  rw [Nat.zero_add] at c1
  obtain ⟨y, hy⟩ : ∃ y, ofK (g 1) = y := ⟨_, rfl⟩
  have hy2 : numsK g 1 = y := hy
  rw [hy2] at c1
  rw [hy]
  clear hr hf hy hy2 hM
  go_enter Tryz.func129, Tryz.ntmps129
  go_wp2_with (go_at_call 65; refine (HM.out).mono ?_; rintro e w1 ⟨rfl, ht, hr, hf⟩; have HT := hid ht; have HR := hid hr; have HF := hid hf; clear ht hr hf)
  go_ret
  exact ⟨rfl, HT.out, HR.out, HF.out⟩

set_option maxHeartbeats 1000000 in
set_option maxRecDepth 100000 in
theorem takeOne_any (b : Nat) (g : Nat → K) (x : Int) (w : World) (hr : Row w b 0 3 (numsK g)) (hf : Free w b 0 3) (x0 : 0 ≤ x) (x1 : x ≤ 18446744073709551615) :
    Calls Tryz.prog 128 #[.pointer (some ⟨b, 0, none⟩), .int .u64 x] w fun e w' => e = .returned (.tuple #[]) ∧ Turned b w w' ∧ Row w' b 0 3 (numsK (takeK g (kk x))) ∧ Free w' b 0 3 := by
  have c1 := hr 0 (by omega)
  have f1 := hf 0 (by omega)
  rw [Nat.zero_add] at c1 f1
  obtain ⟨s, hs⟩ : ∃ s, ofK (g 0) = s := ⟨_, rfl⟩
  have hs2 : numsK g 0 = s := hs
  have sr := ofK_rng (g 0)
  rw [hs] at sr
  rw [hs2] at c1
  obtain ⟨s0, s1⟩ := sr
  have hst := add_row (x := x) hr hf
  rw [hs] at hst
  have hM := mix_any b _ _ hst.1 hst.2 (Nums_K _)
  rw [kk_numsK] at hM
  have HM := hid hM
  clear hr hf hs hs2 hst hM
  go_enter Tryz.func128, Tryz.ntmps128
  go_wp2_with fail
  refine (add_any s x _ (by omega) (by omega) (by omega) (by omega)).mono ?_
  rintro e w' ⟨rfl, hw⟩
  obtain rfl := hw.symm
  go_wp2_with (go_at_call 65; refine (HM.out).mono ?_; rintro e w1 ⟨rfl, ht, hr, hf⟩; have HT := hid ht; have HR := hid hr; have HF := hid hf; clear ht hr hf)
  go_end0
  exact ⟨rfl, ((Turned.refl b _).setCell 0 (.int .u64 (addQ s x))).trans HT.out, HR.out, HF.out⟩

set_option maxHeartbeats 400000 in
theorem take_large (b n cap : Nat) (ao : Option Addr) (w : World) (hn : 1000 < n) :
    Calls Tryz.prog 118 #[.pointer (some ⟨b, 0, none⟩), .slice ao n cap] w fun e w' => e = .returned (.int .i64 2) ∧ w' = w := by
  have h1 : (1000 : Int) < (n : Int) := by omega
  go_enter Tryz.func118, Tryz.ntmps118
  go_wp2_with fail
  go_ret
  exact ⟨rfl, rfl⟩

set_option maxHeartbeats 1000000 in
set_option maxRecDepth 100000 in
theorem take_any (b : Nat) (g : Nat → K) (ao : Option Addr) (n cap : Nat) (f : Nat → Int) (w : World) (hr : Row w b 0 3 (numsK g)) (hf : Free w b 0 3) (hn : n ≤ 1000) (hp : PRow w ao n f) (hv : Nums f) (hne : 0 < n → ∀ c o, ao = some ⟨c, o, none⟩ → c ≠ b) :
    Calls Tryz.prog 118 #[.pointer (some ⟨b, 0, none⟩), .slice ao n cap] w fun e w' => e = .returned (.int .i64 0) ∧ Turned b w w' ∧ Row w' b 0 3 (numsK (takesK g n f n)) ∧ Free w' b 0 3 := by
  have HT0 := hid (takeOne_any b g (n : Int) w hr hf (by omega) (by omega))
  have HP := hid hp
  have HV := hid hv
  have HNE := hid hne
  clear hr hf hp hv hne
  have n1 : ¬ (1000 : Int) < (n : Int) := by omega
  have wn : IntKind.u64.wrap (n : Int) = (n : Int) := by rw [IntKind.wrap_u64]; omega
  go_enter Tryz.func118, Tryz.ntmps118
  go_wp2_with (go_at_call 128; refine (HT0.out).mono ?_; rintro e w1 ⟨rfl, ht, hr, hf⟩; have HT := hid ht; have HR := hid hr; have HF := hid hf; clear ht hr hf)
  go_loopg [17, 6] n (fun q i a wr => ∃ k : Nat, k ≤ n ∧ q = n - k ∧ i = .int .i64 (k : Int) ∧ Hid (Turned b w wr) ∧ Hid (Row wr b 0 3 (numsK (takesK g n f k))) ∧ Hid (Free wr b 0 3))
  case atStart => exact ⟨0, by omega, rfl, rfl, HT, HR, HF⟩
  case round =>
    clear HR HF HT
    obtain ⟨k, hk, rfl, rfl, HTU, HR, HF⟩ := hrel
    by_cases hlt : k < n
    · obtain ⟨bl, ol, rfl, hrl⟩ := HP.out (by omega)
      have cl := (hrl.turned HTU.out (HNE.out (by omega) bl ol rfl)) k (by omega)
      obtain ⟨x, hx⟩ : ∃ x, f k = x := ⟨_, rfl⟩
      have bx := HV.out k
      rw [hx] at cl bx
      obtain ⟨x0, x1⟩ := bx
      have HT1 := hid (takeOne_any b (takesK g n f k) x wr HR.out HF.out x0 x1)
      have HX := hid hx
      clear hrl hx
      have j0 : (0 : Int) ≤ (k : Int) := by omega
      have j1 : (k : Int) < (n : Int) := by omega
      go_wp2_with (go_at_call 128; refine (HT1.out).mono ?_; rintro e w2 ⟨rfl, ht, hr, hf⟩; have HT2 := hid ht; have HR2 := hid hr; have HF2 := hid hf; clear ht hr hf)
      go_roundg (n - (k + 1))
      case measure => go_light; omega
      case rel => exact ⟨k + 1, by omega, rfl, by go_num, hid (HTU.out.trans HT2.out), hid (by rw [takesK, HX.out]; exact HR2.out), HF2⟩
    · have e : k = n := by omega
      subst e
      go_wp2_with fail
      go_ret
      exact ⟨rfl, HTU.out, HR.out, HF.out⟩

set_option maxHeartbeats 1000000 in
theorem new_any (word : Int) (w : World) (h0 : 0 ≤ word) (h1 : word ≤ 18446744073709551615) :
    Calls Tryz.prog 28 #[.int .u64 word] w fun e w' => e = .returned (.pointer (some ⟨w.heap.size, 0, none⟩)) ∧ Below w.heap.size w w' ∧ w.heap.size < w'.heap.size ∧ Row w' w.heap.size 0 3 (numsK (mixed (newK word))) ∧ Free w' w.heap.size 0 3 := by
  obtain ⟨hr, hf⟩ := row_new3 w 0 1 word 112
  have hM := mix_any w.heap.size _ _ hr hf (Nums_set3 (by omega) (by omega) ⟨h0, h1⟩)
  rw [kk_set3] at hM
  have HM := hid hM
  have hlt := hr.lt (by omega)
  have HB : Hid (Below w.heap.size w (w.alloc (.cells #[.int .u64 0, .int .u64 1, .int .u64 word] 112))) := hid ((Below.refl _ w).alloc (Nat.le_refl _) _)
  have HLT := hid hlt
  clear hr hf hM hlt
  go_enter Tryz.func28, Tryz.ntmps28
  go_wp2_with (go_at_call 65; refine (HM.out).mono ?_; rintro e w1 ⟨rfl, ht, hr, hf⟩; have HT := hid ht; have HR := hid hr; have HF := hid hf; clear ht hr hf)
  go_ret
  exact ⟨rfl, HB.out.trans (HT.out.below (Nat.le_refl _) HB.out.size), Nat.lt_of_lt_of_le HLT.out HT.out.size, HR.out, HF.out⟩

set_option maxHeartbeats 1000000 in
set_option maxRecDepth 100000 in
theorem pair_any (a b : Int) (w : World) (h0 : 0 ≤ a) (h1 : a ≤ 18446744073709551615) (g0 : 0 ≤ b) (g1 : b ≤ 18446744073709551615) :
    Calls Tryz.prog 120 #[.int .u64 a, .int .u64 b] w fun e w' => e = .returned (.int .u64 (ofK (pairK a b))) ∧ Below w.heap.size w w' := by
  have HN := hid (new_any 7 w (by omega) (by omega))
  go_enter Tryz.func120, Tryz.ntmps120
  go_wp2_with fail
  refine (HN.out).mono ?_
  rintro e w1 ⟨rfl, hb, hlt, hr, hf⟩
  have hB : Below w1.heap.size w1 (w1.alloc (.cells #[.int .u64 a, .int .u64 b] 31)) := (Below.refl _ w1).alloc (Nat.le_refl _) _
  have hT := take_any w.heap.size _ (some ⟨w1.heap.size, 0, none⟩) 2 2 (pairF a b) _ (hr.kept hB hlt) (hf.kept hB hlt) (by omega) (PRow.of (pair_lit w1 a b 31)) (Nums_pair h0 h1 g0 g1) (fun _ c o e => by injection e with e; injection e with e1 e2; omega)
  have HB : Hid (Below w.heap.size w (w1.alloc (.cells #[.int .u64 a, .int .u64 b] 31))) := hid (hb.trans (hB.mono hb.size))
  have HT := hid hT
  clear hb hr hf hB hT HN
  go_wp2_with fail
  refine (HT.out).mono ?_
  rintro e w2 ⟨rfl, ht, hr, hf⟩
  have HB2 : Hid (Below w.heap.size w w2) := hid (HB.out.trans (ht.below (Nat.le_refl _) HB.out.size))
  have HG := hid (give_any w.heap.size _ w2 hr hf)
  clear ht hr hf HB HT
  go_wp2_with fail
  refine (HG.out).mono ?_
  rintro e w3 ⟨rfl, ht, hr, hf⟩
  have HB3 : Hid (Below w.heap.size w w3) := hid (HB2.out.trans (ht.below (Nat.le_refl _) HB2.out.size))
  clear ht hr hf
  go_wp2_with fail
  go_ret
  exact ⟨rfl, HB3.out⟩

end Go.Proofs.YtbchbmelofojkaaGreatDoor

/-
  Plain: what a new sponge of the word 1 tells first: it is not 0; and Take of a list of whatever length.
-/
namespace Go.Proofs.YtbchbmelofojkaaGreatDoor
open Go.RowKit
set_option linter.unusedVariables false

def v3 (a b c : K) (k : Nat) : K := if k = 0 then a else if k = 1 then b else c
theorem v3_step {g : Nat → K} {n : Nat} {a b c a' b' c' : K} (h : ∀ k, k < 3 → mixK g n k = v3 a b c k) (e : turnK (n + 1) (v3 a b c) 0 = a' ∧ turnK (n + 1) (v3 a b c) 1 = b' ∧ turnK (n + 1) (v3 a b c) 2 = c') : ∀ k, k < 3 → mixK g (n + 1) k = v3 a' b' c' k := by
  intro k hk
  show turnK (n + 1) (mixK g n) k = _
  rw [turnK_congr (n + 1) k hk h]
  match k, hk with
  | 0, _ => exact e.1
  | 1, _ => exact e.2.1
  | 2, _ => exact e.2.2
theorem new_one : mixed (newK 1) 1 = 1669116742769714087 := by
  have h0 : ∀ k, k < 3 → mixK (newK 1) 0 k = v3 0 1 1 k := fun k hk => by
    match k, hk with
    | 0, _ => rfl
    | 1, _ => rfl
    | 2, _ => rfl
  have h1 := v3_step (a' := 17309009349) (b' := 17438149511) (c' := 34488878532) h0 (by decide +kernel)
  have h2 := v3_step (a' := 1573814559549188993) (b' := 715743805754807860) (c' := 1788218144668059710) h1 (by decide +kernel)
  have h3 := v3_step (a' := 216506331245268182) (b' := 1400893509095417574) (c' := 2001818938228197229) h2 (by decide +kernel)
  have h4 := v3_step (a' := 487761997562441572) (b' := 1609402419519888973) (c' := 2260444883116086776) h3 (by decide +kernel)
  have h5 := v3_step (a' := 644698438108695660) (b' := 1719309461503627782) (c' := 1699817507873481296) h4 (by decide +kernel)
  have h6 := v3_step (a' := 1938174909269888829) (b' := 1259100607534908340) (c' := 2127548290031924251) h5 (by decide +kernel)
  have h7 := v3_step (a' := 2209722413685827084) (b' := 1500207906989657873) (c' := 986607135423452686) h6 (by decide +kernel)
  have h8 := v3_step (a' := 2131637896081591315) (b' := 1669116742769714087) (c' := 80801863418079052) h7 (by decide +kernel)
  exact h8 1 (by omega)
theorem new_one_ne : ofK (mixed (newK 1) 1) ≠ 0 := by rw [new_one]; decide +kernel

/-- What Take answers of a list of n numbers, and what the sponge's numbers are behind it. -/
def tkE (n : Nat) : Int := if n ≤ 1000 then 0 else 2
def tkK (g : Nat → K) (n : Nat) (f : Nat → Int) : Nat → K := if n ≤ 1000 then takesK g n f n else g
theorem take_all (b : Nat) (g : Nat → K) (ao : Option Addr) (n cap : Nat) (f : Nat → Int) (w : World) (hr : Row w b 0 3 (numsK g)) (hf : Free w b 0 3) (hp : PRow w ao n f) (hv : Nums f) (hne : 0 < n → ∀ c o, ao = some ⟨c, o, none⟩ → c ≠ b) :
    Calls Tryz.prog 118 #[.pointer (some ⟨b, 0, none⟩), .slice ao n cap] w fun e w' => e = .returned (.int .i64 (tkE n)) ∧ Turned b w w' ∧ Row w' b 0 3 (numsK (tkK g n f)) ∧ Free w' b 0 3 := by
  unfold tkE tkK
  by_cases h : n ≤ 1000
  · rw [if_pos h, if_pos h]
    exact take_any b g ao n cap f w hr hf h hp hv hne
  · rw [if_neg h, if_neg h]
    refine (take_large b n cap ao w (by omega)).mono ?_
    rintro e w' ⟨rfl, rfl⟩
    exact ⟨rfl, Turned.refl _ _, hr, hf⟩

end Go.Proofs.YtbchbmelofojkaaGreatDoor

/-
  Plain: proofs without asking: in which order a proof's lists are told, what a sponge draws behind each; the right proof's lists don't hang on what is drawn behind them, so the right proof is told list by list; no program in it.
-/
namespace Go.Proofs.YtbchbmelofojkaaGreatDoor
open Go.RowKit
set_option linter.unusedVariables false

/-- Which part's which list is told at place t. -/
def wh (rn : Nat → Nat) : Nat → Nat × Nat
  | 0 => (0, 0)
  | t + 1 => if (wh rn t).2 < rn (wh rn t).1 then ((wh rn t).1, (wh rn t).2 + 1) else ((wh rn t).1 + 1, 0)
/-- Where a part's lists begin. -/
def posF (rn : Nat → Nat) : Nat → Nat
  | 0 => 0
  | j + 1 => posF rn j + rn j + 1
theorem wh_at (rn : Nat → Nat) (j : Nat) : ∀ r, r ≤ rn j → wh rn (posF rn j + r) = (j, r) := by
  have step : ∀ j r, wh rn (posF rn j) = (j, 0) → r ≤ rn j → wh rn (posF rn j + r) = (j, r) := by
    intro j r h
    induction r with
    | zero => exact fun _ => h
    | succ r ih =>
      intro hr
      rw [← Nat.add_assoc, wh, ih (by omega)]
      dsimp only
      rw [if_pos (by omega)]
  have first : ∀ j, wh rn (posF rn j) = (j, 0) := by
    intro j
    induction j with
    | zero => rfl
    | succ j ih =>
      rw [posF, wh, step j (rn j) ih (Nat.le_refl _)]
      dsimp only
      rw [if_neg (Nat.lt_irrefl _)]
  exact fun r => step j r (first j)
theorem wh_find (rn : Nat → Nat) (n : Nat) {t : Nat} (h : t < posF rn n) : ∃ j r, j < n ∧ r ≤ rn j ∧ t = posF rn j + r := by
  induction n with
  | zero => exact absurd h (Nat.not_lt_zero _)
  | succ n ih =>
    by_cases e : t < posF rn n
    · obtain ⟨j, r, h1, h2, h3⟩ := ih e
      exact ⟨j, r, by omega, h2, h3⟩
    · rw [posF] at h
      exact ⟨n, t - posF rn n, by omega, by omega, by omega⟩
theorem posF_mono (rn : Nat → Nat) {i j : Nat} (h : i < j) : posF rn i + rn i < posF rn j := by
  induction j with
  | zero => exact absurd h (Nat.not_lt_zero _)
  | succ j ih =>
    rw [posF]
    by_cases e : i = j
    · rw [e]; omega
    · have := ih (by omega); omega

/-- The list that is told at place t: how many numbers it has, which, and where it lies. -/
def lsN (p : PQ) (t : Nat) : Nat := if (wh p.rn t).2 < p.rn (wh p.rn t).1 then p.rl (wh p.rn t).1 (wh p.rn t).2 else p.ln (wh p.rn t).1
def lsF (p : PQ) (t : Nat) : Nat → Int := if (wh p.rn t).2 < p.rn (wh p.rn t).1 then p.R (wh p.rn t).1 (wh p.rn t).2 else p.L (wh p.rn t).1
def lsA (p : PQ) (m : PM) (t : Nat) : Option Addr := if (wh p.rn t).2 < p.rn (wh p.rn t).1 then m.A (wh p.rn t).1 (wh p.rn t).2 else m.la (wh p.rn t).1
def lsC (p : PQ) (m : PM) (t : Nat) : Nat := if (wh p.rn t).2 < p.rn (wh p.rn t).1 then m.C (wh p.rn t).1 (wh p.rn t).2 else m.lc (wh p.rn t).1
/-- How many lists there are. -/
def allL (p : PQ) : Nat := posF p.rn p.n
theorem ls_round (p : PQ) (m : PM) {j r : Nat} (h : r < p.rn j) : lsN p (posF p.rn j + r) = p.rl j r ∧ lsF p (posF p.rn j + r) = p.R j r ∧ lsA p m (posF p.rn j + r) = m.A j r ∧ lsC p m (posF p.rn j + r) = m.C j r := by
  unfold lsN lsF lsA lsC
  rw [wh_at p.rn j r (by omega)]
  dsimp only
  rw [if_pos h, if_pos h, if_pos h, if_pos h]
  exact ⟨rfl, rfl, rfl, rfl⟩
theorem ls_line (p : PQ) (m : PM) (j : Nat) : lsN p (posF p.rn j + p.rn j) = p.ln j ∧ lsF p (posF p.rn j + p.rn j) = p.L j ∧ lsA p m (posF p.rn j + p.rn j) = m.la j ∧ lsC p m (posF p.rn j + p.rn j) = m.lc j := by
  unfold lsN lsF lsA lsC
  rw [wh_at p.rn j _ (Nat.le_refl _)]
  dsimp only
  rw [if_neg (Nat.lt_irrefl _), if_neg (Nat.lt_irrefl _), if_neg (Nat.lt_irrefl _), if_neg (Nat.lt_irrefl _)]
  exact ⟨rfl, rfl, rfl, rfl⟩

/-- What a sponge's numbers are when it has given n times. -/
def mixN (g : Nat → K) : Nat → Nat → K
  | 0 => g
  | n + 1 => mixed (mixN g n)
/-- A sponge, and the draws so far. -/
structure Asked where
  g : Nat → K
  D : Nat → Int
/-- The highest layer's point is given. -/
def ask0 (g : Nat → K) (z : Nat) : Asked := ⟨mixN g z, fun i => ofK (mixN g i 1)⟩
/-- A list is heard behind k draws, and one more is drawn. -/
def Asked.hear (a : Asked) (k n : Nat) (f : Nat → Int) : Asked := ⟨mixed (tkK a.g n f), catF k a.D (fun _ => ofK (tkK a.g n f 1))⟩
/-- A proof is heard, list by list. -/
def hearP (a : Asked) (z : Nat) (p : PQ) : Nat → Asked
  | 0 => a
  | t + 1 => (hearP a z p t).hear (z + t) (lsN p t) (lsF p t)
/-- The draws so far, and noughts. -/
def filF (n : Nat) (f : Nat → Int) (j : Nat) : Int := if j < n then f j else 0
theorem Nums_fil {f : Nat → Int} {n : Nat} (hf : ∀ j, j < n → 0 ≤ f j ∧ f j ≤ 18446744073709551615) : Nums (filF n f) := fun j => by
  unfold filF
  by_cases h : j < n
  · rw [if_pos h]; exact hf j h
  · rw [if_neg h]; omega
/-- The right proof is told, list by list. -/
def tellP (a : Asked) (z : Nat) (c : CQ) (f : Nat → Int) : Nat → Asked
  | 0 => a
  | t + 1 => (tellP a z c f t).hear (z + t) (lsN (rightP c f (filF (z + t) (tellP a z c f t).D)) t) (lsF (rightP c f (filF (z + t) (tellP a z c f t).D)) t)
theorem tell_more (a : Asked) (z : Nat) (c : CQ) (f : Nat → Int) (t d : Nat) : ∀ k, k < z + t → (tellP a z c f (t + d)).D k = (tellP a z c f t).D k := by
  induction d with
  | zero => exact fun k _ => rfl
  | succ d ih =>
    intro k hk
    rw [← Nat.add_assoc, tellP, Asked.hear]
    dsimp only
    rw [catF, if_pos (by omega), ih k hk]

theorem cube_congr {F F' : (Nat → K) → K} {N : Nat} (hF : ∀ g g', (∀ i, i < N → g i = g' i) → F g = F' g') (m : Nat) : ∀ (j : Nat) (g g' : Nat → K), j + m = N → (∀ i, i < j → g i = g' i) → cubeS F j m g = cubeS F' j m g' := by
  induction m with
  | zero =>
    intro j g g' hj h
    exact hF g g' fun i hi => h i (by omega)
  | succ m ih =>
    intro j g g' hj h
    have hu : ∀ x : K, ∀ i, i < j + 1 → updK g j x i = updK g' j x i := by
      intro x i hi
      unfold updK
      by_cases e : i = j
      · rw [if_pos e, if_pos e]
      · rw [if_neg e, if_neg e]; exact h i (by omega)
    rw [cubeS, cubeS, ih (j + 1) _ _ (by omega) (hu 0), ih (j + 1) _ _ (by omega) (hu 1)]
theorem z_pre (C : Parts) (D D' : Nat → Int) (j : Nat) (h : ∀ k, k < C.at j → D k = D' k) : ∀ i, i < C.lg j → C.z D j i = C.z D' j i := by
  cases j with
  | zero => exact fun i hi => by show kk (D i) = kk (D' i); rw [h i hi]
  | succ j =>
    intro i hi
    have ha : C.at (j + 1) = C.at j + 2 * C.lg (j + 1) + 1 := rfl
    show lineK (C.d D j) (fun i => C.d D j (C.lg (j + 1) + i)) (kk (C.tau D j)) i = lineK (C.d D' j) (fun i => C.d D' j (C.lg (j + 1) + i)) (kk (C.tau D' j)) i
    unfold lineK Parts.d Parts.tau
    dsimp only
    rw [h (C.at j + i) (by omega), h (C.at j + (C.lg (j + 1) + i)) (by omega), h (C.at j + 2 * C.lg (j + 1)) (by omega)]
theorem rnd_pre (C : Parts) (V : Nat → Nat → K) (D D' : Nat → Int) (j r : Nat) (hr : r < 2 * C.lg (j + 1)) (h : ∀ k, k < C.at j + r → D k = D' k) (x : K) : C.rnd V D j r x = C.rnd V D' j r x := by
  unfold Parts.rnd rndK
  refine cube_congr (N := C.lg (j + 1) + C.lg (j + 1)) (fun g g' hg => ?_) _ _ _ _ (by omega) (fun i hi => ?_)
  · unfold Parts.F
    exact layF_congr _ _ _ _ _ _ (z_pre C D D' j fun k hk => h k (by omega)) hg
  · unfold updK
    by_cases e : i = r
    · rw [if_pos e, if_pos e]
    · rw [if_neg e, if_neg e]
      unfold Parts.d
      rw [h (C.at j + i) (by omega)]
theorem line_pre (C : Parts) (V : Nat → Nat → K) (D D' : Nat → Int) (j : Nat) (h : ∀ k, k < C.at j + 2 * C.lg (j + 1) → D k = D' k) (x : K) : C.line V D j x = C.line V D' j x := by
  unfold Parts.line
  refine evS_congr _ (fun _ _ => rfl) (fun i hi => ?_)
  unfold lineK Parts.d
  dsimp only
  rw [h (C.at j + i) (by omega), h (C.at j + (C.lg (j + 1) + i)) (by omega)]
/-- A list of the right proof doesn't hang on what is drawn behind it. -/
theorem at_pos (c : CQ) (f D : Nat → Int) (j : Nat) : (partsQ c).at j = (partsQ c).lg 0 + posF (rightP c f D).rn j := by
  induction j with
  | zero => rfl
  | succ j ih =>
    show (partsQ c).at j + 2 * (partsQ c).lg (j + 1) + 1 = (partsQ c).lg 0 + (posF (rightP c f D).rn j + 2 * (partsQ c).lg (j + 1) + 1)
    rw [ih]; omega
theorem all_need (c : CQ) (f D : Nat → Int) : needQ c = (partsQ c).lg 0 + allL (rightP c f D) := at_pos c f D _
theorem all_eq (c : CQ) (f D D' : Nat → Int) : allL (rightP c f D) = allL (rightP c f D') := by
  show posF (fun j => 2 * (partsQ c).lg (j + 1)) c.layers.length = posF (fun j => 2 * (partsQ c).lg (j + 1)) c.layers.length
  rfl
theorem lsN_eq (c : CQ) (f D D' : Nat → Int) (t : Nat) : lsN (rightP c f D) t = lsN (rightP c f D') t := by
  unfold lsN
  rfl
theorem ls_pre (c : CQ) (f D D' : Nat → Int) (t : Nat) (ht : t < allL (rightP c f D)) (h : ∀ k, k < (partsQ c).lg 0 + t → D k = D' k) : lsF (rightP c f D) t = lsF (rightP c f D') t := by
  obtain ⟨j, r, hj, hr, rfl⟩ := wh_find _ _ ht
  have ha := at_pos c f D j
  have e : (rightP c f D').rn = (rightP c f D).rn := rfl
  have m0 : PM := ⟨fun _ => none, fun _ => none, fun _ => 0, fun _ => 0, fun _ _ => none, fun _ _ => 0⟩
  by_cases hl : r < (rightP c f D).rn j
  · rw [(ls_round (rightP c f D) m0 hl).2.1, ← e, (ls_round (rightP c f D') m0 (by rw [e]; exact hl)).2.1]
    funext v
    show ofK _ = ofK _
    rw [rnd_pre (partsQ c) (valsK c f) D D' j r hl fun k hk => h k (by rw [ha] at hk; omega)]
  · obtain rfl : r = (rightP c f D).rn j := by omega
    rw [(ls_line (rightP c f D) m0 j).2.1, ← e, (ls_line (rightP c f D') m0 j).2.1]
    funext v
    show ofK _ = ofK _
    rw [line_pre (partsQ c) (valsK c f) D D' j fun k hk => h k (by rw [ha] at hk; show k < _ + (_ + 2 * (partsQ c).lg (j + 1)); omega)]
/-- The proof that is told at last. -/
def lastP (a : Asked) (c : CQ) (f : Nat → Int) (T : Nat) : PQ := rightP c f (filF ((partsQ c).lg 0 + (T - 1)) (tellP a ((partsQ c).lg 0) c f (T - 1)).D)
theorem last_pre (a : Asked) (c : CQ) (f D : Nat → Int) (T : Nat) (hT : T = allL (rightP c f D)) (t d : Nat) (ht : t + d < T) :
    lsF (rightP c f (filF ((partsQ c).lg 0 + t) (tellP a ((partsQ c).lg 0) c f t).D)) t = lsF (rightP c f (filF ((partsQ c).lg 0 + (t + d)) (tellP a ((partsQ c).lg 0) c f (t + d)).D)) t := by
  refine ls_pre c f _ _ t (by rw [all_eq c f _ D]; omega) fun k hk => ?_
  unfold filF
  rw [if_pos hk, if_pos (by omega), tell_more a ((partsQ c).lg 0) c f t d k hk]
/-- Who hears that proof draws what was drawn when it was told. -/
theorem tell_hear (a : Asked) (c : CQ) (f D : Nat → Int) (T : Nat) (hT : T = allL (rightP c f D)) : ∀ t, t ≤ T → hearP a ((partsQ c).lg 0) (lastP a c f T) t = tellP a ((partsQ c).lg 0) c f t := by
  intro t
  induction t with
  | zero => exact fun _ => rfl
  | succ t ih =>
    intro ht
    have h := last_pre a c f D T hT t (T - 1 - t) (by omega)
    rw [show t + (T - 1 - t) = T - 1 from by omega] at h
    unfold lastP at ih ⊢
    rw [hearP, tellP, ih (by omega), h, lsN_eq c f _ (filF ((partsQ c).lg 0 + t) (tellP a ((partsQ c).lg 0) c f t).D)]
/-- It is the right proof for these draws. -/
theorem last_right (a : Asked) (c : CQ) (f D : Nat → Int) (T : Nat) (hT : T = allL (rightP c f D)) (t : Nat) (ht : t < T) : lsF (lastP a c f T) t = lsF (rightP c f (tellP a ((partsQ c).lg 0) c f T).D) t := by
  refine ls_pre c f _ _ t (by rw [all_eq c f _ D]; omega) fun k hk => ?_
  have h := tell_more a ((partsQ c).lg 0) c f (T - 1) 1 k (by omega)
  rw [show T - 1 + 1 = T from by omega] at h
  unfold filF
  rw [if_pos (by omega), h]
/-- What is held hangs on the lists alone. -/
structure SameT (C : Parts) (p q : Told) : Prop where
  R : ∀ j, j < C.n → ∀ r, r < C.lg (j + 1) + C.lg (j + 1) → p.R j r = q.R j r
  L : ∀ j, j < C.n → p.L j = q.L j
theorem SameT.symm {C : Parts} {p q : Told} (h : SameT C p q) : SameT C q p := ⟨fun j hj r hr => (h.R j hj r hr).symm, fun j hj => (h.L j hj).symm⟩
theorem SameT.claim {C : Parts} {p q : Told} (h : SameT C p q) (D : Nat → Int) (c0 : Int) (j : Nat) (hj : j ≤ C.n) : C.claim D p c0 j = C.claim D q c0 j := by
  cases j with
  | zero => rfl
  | succ j =>
    show atQ (p.L j) _ _ = atQ (q.L j) _ _
    rw [h.L j (by omega)]
theorem SameT.now {C : Parts} {p q : Told} (h : SameT C p q) (D : Nat → Int) (c0 : Int) (j r : Nat) (hj : j < C.n) (hr : r ≤ C.lg (j + 1) + C.lg (j + 1)) : C.now D p c0 j r = C.now D q c0 j r := by
  cases r with
  | zero => exact h.claim D c0 j (by omega)
  | succ r =>
    show atQ (p.R j r) _ _ = atQ (q.R j r) _ _
    rw [h.R j hj r (by omega)]
theorem SameT.holds {C : Parts} {p q : Told} (h : SameT C p q) {D : Nat → Int} {c0 : Int} {inp : Nat → K} (hp : C.holds D p c0 inp) : C.holds D q c0 inp := by
  refine ⟨fun j hj => ⟨fun r hr => ?_, ?_⟩, ?_⟩
  · rw [← h.R j hj r hr, ← h.now D c0 j r hj (by omega)]
    exact (hp.1 j hj).sums r hr
  · have e : C.v1 q j = C.v1 p j := by unfold Parts.v1; rw [h.L j hj]
    rw [e, ← h.L j hj, ← h.now D c0 j _ hj (Nat.le_refl _)]
    exact (hp.1 j hj).step
  · rw [← h.claim D c0 C.n (Nat.le_refl _)]
    exact hp.2
theorem same_of_lists {c : CQ} {p q : PQ} (hp : shapedQ c p) (hq : shapedQ c q) (h : ∀ t, t < allL p → lsF p t = lsF q t) : SameT (partsQ c) p.told q.told := by
  have m0 : PM := ⟨fun _ => none, fun _ => none, fun _ => 0, fun _ => 0, fun _ _ => none, fun _ _ => 0⟩
  have hrn : ∀ j, j < c.layers.length → p.rn j = q.rn j := fun j hj => by rw [(hp.2 j (by rw [hp.1]; exact hj)).1, (hq.2 j (by rw [hq.1]; exact hj)).1]
  have hpos : ∀ j, j ≤ c.layers.length → posF p.rn j = posF q.rn j := by
    intro j
    induction j with
    | zero => exact fun _ => rfl
    | succ j ih => intro hj; rw [posF, posF, ih (by omega), hrn j (by omega)]
  have hlt : ∀ j r, j < c.layers.length → r ≤ p.rn j → posF p.rn j + r < allL p := fun j r hj hr => by
    have := posF_mono p.rn (i := j) (j := p.n) (by rw [hp.1]; exact hj)
    unfold allL
    omega
  refine ⟨fun j hj r hr => ?_, fun j hj => ?_⟩
  · have hj' : j < c.layers.length := hj
    have e : r < p.rn j := by rw [(hp.2 j (by rw [hp.1]; exact hj')).1]; omega
    have h1 := h (posF p.rn j + r) (hlt j r hj' (by omega))
    rw [(ls_round p m0 e).2.1, hpos j (by omega), (ls_round q m0 (by rw [← hrn j hj']; exact e)).2.1] at h1
    exact h1
  · have hj' : j < c.layers.length := hj
    have h1 := h (posF p.rn j + p.rn j) (hlt j _ hj' (Nat.le_refl _))
    rw [(ls_line p m0 j).2.1, hpos j (by omega), hrn j hj', (ls_line q m0 j).2.1] at h1
    exact h1
/-- The right proof, told list by list, holds for just the outputs that have the circuit's value at the point that is given. -/
theorem right_just {c : CQ} (hc : c.right) (f D : Nat → Int) (c0 : Int) (fi : Nat → Int) :
    (partsQ c).holds D (rightP c f D).told c0 (fun j => kk (fi j)) ↔ c0 = ofK (evS (fun j => kk (valsQ c f c.layers.length j)) (fun j => kk (D j)) ((partsQ c).lg 0)) ∧ evS (fun j => kk (fi j)) ((partsQ c).z D c.layers.length) ((partsQ c).lg c.layers.length) = evS (fun j => kk (f j)) ((partsQ c).z D c.layers.length) ((partsQ c).lg c.layers.length) := by
  have n1 : 0 < (partsQ c).n := List.length_pos_iff.2 hc.some
  rw [rightP_told, Parts.right_holds (partsQ c) D _ _ (parts_fits hc) (parts_run hc f) (fun j => by have := parts_lg hc j; omega) n1]
  have h2 : (partsQ c).tru (valsK c f) D (partsQ c).n = evS (fun j => kk (f j)) ((partsQ c).z D c.layers.length) ((partsQ c).lg c.layers.length) := by
    refine evS_congr _ (fun b _ => ?_) (fun _ _ => rfl)
    show kk (valsQ c f (c.layers.length - c.layers.length) b) = _
    rw [Nat.sub_self]
    show kk (nrm (f b)) = kk (f b)
    exact kk_nrm _
  rw [h2]
  rfl
theorem last_holds {c : CQ} (hc : c.right) (a : Asked) (f : Nat → Int) (T : Nat) (hT : T = allL (rightP c f f)) :
    (partsQ c).holds (hearP a ((partsQ c).lg 0) (lastP a c f T) T).D (lastP a c f T).told (ofK (evS (fun j => kk (valsQ c f c.layers.length j)) (fun j => kk ((hearP a ((partsQ c).lg 0) (lastP a c f T) T).D j)) ((partsQ c).lg 0))) (fun j => kk (f j)) := by
  rw [tell_hear a c f f T hT T (Nat.le_refl _)]
  have hs : SameT (partsQ c) (rightP c f (tellP a ((partsQ c).lg 0) c f T).D).told (lastP a c f T).told := same_of_lists (rightP_shaped _ _ _) (rightP_shaped _ _ _) fun t ht => (last_right a c f f T hT t (by rw [all_eq c f _ f] at ht; omega)).symm
  exact hs.holds ((right_just hc f _ _ f).2 ⟨rfl, rfl⟩)
/-- A right proof's first round tells the first claim: it holds for no other, whatever is drawn, where there is a first round. -/
theorem first_just {c : CQ} (hc : c.right) (f D D' : Nat → Int) (c0 : Int) (inp : Nat → K) (h1 : 0 < (partsQ c).lg 1) (hp : (partsQ c).holds D' (rightP c f D).told c0 inp) : c0 = ofK ((partsQ c).tru (valsK c f) D 0) := by
  have n1 : 0 < (partsQ c).n := List.length_pos_iff.2 hc.some
  have h1 : 0 < (partsQ c).lg (0 + 1) := h1
  have h := (hp.1 0 n1).sums 0 (by omega)
  rw [← (partsQ c).mid_first D (parts_fits hc) (parts_run hc f) n1, ← (partsQ c).ends (valsK c f) D 0 0 (by omega)]
  have e : (partsQ c).now D' (rightP c f D).told c0 0 0 = c0 := rfl
  rw [e] at h
  rw [← h, addQ_ofK]
  show ofK (kk (ofK ((partsQ c).rnd (valsK c f) D 0 0 (kn 0))) + kk (ofK ((partsQ c).rnd (valsK c f) D 0 0 (kn 1)))) = _
  rw [kk_ofK, kk_ofK]; rfl

end Go.Proofs.YtbchbmelofojkaaGreatDoor

/-
  A sponge in the place of one who draws, in memory: the struct, the sponge, the draws so far; what stays; no program in it but types' numbers.
-/
namespace Go.Proofs.YtbchbmelofojkaaGreatDoor
open Go.RowKit
set_option linter.unusedVariables false

/-- w' is w, but for three blocks, and for what is new. -/
structure But3 (X S : Nat) (g : Option Nat) (w w' : World) : Prop where
  os : w'.os = w.os
  tape : w'.tape = w.tape
  output : w'.output = w.output
  size : w.heap.size ≤ w'.heap.size
  block : ∀ k, k < w.heap.size → k ≠ X → k ≠ S → g ≠ some k → w'.heap[k]? = w.heap[k]?
theorem But3.refl (X S : Nat) (g : Option Nat) (w : World) : But3 X S g w w := ⟨rfl, rfl, rfl, Nat.le_refl _, fun _ _ _ _ _ => rfl⟩
theorem But3.trans {X S : Nat} {g g' : Option Nat} {w w' w'' : World} (h : But3 X S g w w') (h2 : But3 X S g' w' w'') (hg : ∀ k, g' = some k → g = some k ∨ w.heap.size ≤ k) : But3 X S g w w'' :=
  ⟨h2.os.trans h.os, h2.tape.trans h.tape, h2.output.trans h.output, Nat.le_trans h.size h2.size, fun k hk h1 h3 h4 => (h2.block k (Nat.lt_of_lt_of_le hk h.size) h1 h3 fun e => by
    rcases hg k e with e2 | e2
    · exact h4 e2
    · omega).trans (h.block k hk h1 h3 h4)⟩
theorem But3.of_below {X S : Nat} {g : Option Nat} {w w' : World} (h : Below w.heap.size w w') : But3 X S g w w' := ⟨h.os, h.tape, h.output, h.size, fun k hk _ _ _ => h.block k hk⟩
theorem But3.of_turned {X S : Nat} {g : Option Nat} {w w' : World} (h : Turned S w w') : But3 X S g w w' := ⟨h.os, h.tape, h.output, h.size, fun k hk _ h2 _ => h.block k hk h2⟩
theorem But3.drew {X S : Nat} {g : Option Nat} {w w' : World} (h : But3 X S g w w') : But3 X S g w w'.drew := ⟨h.os, h.tape, h.output, h.size, h.block⟩
theorem But3.undrew {X S : Nat} {g : Option Nat} {w w' : World} (h : But3 X S g w.drew w') : But3 X S g w w' := ⟨h.os, h.tape, h.output, h.size, h.block⟩
theorem But3.below {X S B : Nat} {g : Option Nat} {w w' : World} (h : But3 X S g w w') (hX : B ≤ X) (hS : B ≤ S) (hg : ∀ k, g = some k → B ≤ k) (hw : B ≤ w.heap.size) : Below B w w' :=
  ⟨h.os, h.tape, h.output, h.size, fun k hk => h.block k (by omega) (by omega) (by omega) fun e => by have := hg k e; omega⟩
theorem But3.cell {X S : Nat} {g : Option Nat} {w w' : World} (h : But3 X S g w w') {b o : Nat} {u : Value} (hc : w.cell? ⟨b, o, none⟩ = some u) (h1 : b ≠ X) (h2 : b ≠ S) (h3 : g ≠ some b) : w'.cell? ⟨b, o, none⟩ = some u :=
  (World.cell?_of_block (w := w) (h.block b (World.block_lt_of_cell? w _ hc) h1 h2 h3)).trans hc

/-- The struct lies in block X, its sponge in block S, its draws are v. -/
structure AskS (W : World) (base X S : Nat) (g : Nat → K) (D : Nat → Int) (n : Nat) (v : Value) : Prop where
  cp : W.cell? ⟨X, 0, none⟩ = some (.pointer (some ⟨S, 0, none⟩))
  cv : W.cell? ⟨X, 1, none⟩ = some v
  fv : W.frozen? ⟨X, 1, none⟩ = false
  own : Own W base v n D
  sr : Row W S 0 3 (numsK g)
  sf : Free W S 0 3
  ne : X ≠ S
  lX : base ≤ X
  lS : base ≤ S
  vX : v.ownBlock ≠ some X
  vS : v.ownBlock ≠ some S
theorem AskS.ltX {W : World} {base X S : Nat} {g : Nat → K} {D : Nat → Int} {n : Nat} {v : Value} (h : AskS W base X S g D n v) : X < W.heap.size := World.block_lt_of_cell? W _ h.cv
theorem AskS.ltS {W : World} {base X S : Nat} {g : Nat → K} {D : Nat → Int} {n : Nat} {v : Value} (h : AskS W base X S g D n v) : S < W.heap.size := h.sr.lt (by omega)
theorem AskS.le {W : World} {base X S : Nat} {g : Nat → K} {D : Nat → Int} {n : Nat} {v : Value} (h : AskS W base X S g D n v) : base ≤ W.heap.size := by have h1 := h.lX; have h2 := h.ltX; omega
theorem AskS.drew {W : World} {base X S : Nat} {g : Nat → K} {D : Nat → Int} {n : Nat} {v : Value} (h : AskS W base X S g D n v) : AskS W.drew base X S g D n v := ⟨h.cp, h.cv, h.fv, h.own, h.sr, h.sf, h.ne, h.lX, h.lS, h.vX, h.vS⟩
theorem AskS.kept {W W' : World} {base X S : Nat} {g : Nat → K} {D : Nat → Int} {n : Nat} {v : Value} (h : AskS W base X S g D n v) (hb : Below W.heap.size W W') : AskS W' base X S g D n v :=
  ⟨(hb.cell h.ltX).trans h.cp, (hb.cell h.ltX).trans h.cv, (hb.frozen h.ltX).trans h.fv, h.own.kept hb, h.sr.kept hb h.ltS, h.sf.kept hb h.ltS, h.ne, h.lX, h.lS, h.vX, h.vS⟩
theorem AskS.below {W W' : World} {base X S : Nat} {g : Nat → K} {D : Nat → Int} {n : Nat} {v : Value} (h : AskS W base X S g D n v) (hb : But3 X S v.ownBlock W W') : Below base W W' := hb.below h.lX h.lS (fun k e => (World.ownsRow.lt h.own k e).1) h.le
theorem AskS.turn {W W1 : World} {base X S : Nat} {g g' : Nat → K} {D : Nat → Int} {n : Nat} {v : Value} (h : AskS W base X S g D n v) (ht : Turned S W W1) (hr : Row W1 S 0 3 (numsK g')) (hf : Free W1 S 0 3) : AskS W1 base X S g' D n v := by
  have hX := ht.block X h.ltX h.ne
  refine ⟨(World.cell?_of_block (w := W) hX).trans h.cp, (World.cell?_of_block (w := W) hX).trans h.cv, (World.frozen?_of_block (w := W) hX).trans h.fv, ?_, hr, hf, h.ne, h.lX, h.lS, h.vX, h.vS⟩
  refine ⟨h.own.1, ?_⟩
  rcases h.own.2 with h2 | ⟨q, cap, cur, hv, hg, hh, r⟩
  · exact .inl h2
  · have hne : q ≠ S := fun e => h.vS (by rw [hv, e]; rfl)
    exact .inr ⟨q, cap, cur, hv, hg, (ht.block q (Array.getElem?_eq_some_iff.1 hh).1 hne).trans hh, r⟩
/-- One draw more. -/
theorem AskS.put {W W1 : World} {base X S : Nat} {g : Nat → K} {D : Nat → Int} {n : Nat} {v : Value} {y : Int} {g2 c2 : Nat} {o : Obj} (h : AskS W base X S g D n v)
    (h6 : W1.ownsRow base 31 1 (.slice (some ⟨g2, 0, none⟩) (n + 1) c2) (n + 1) (cellsOf n D ++ [.int .u64 y])) (hg : (W.alloc o).grownBy W1 v.ownBlock) (hat : v.ownBlock = some g2 ∨ g2 = W.heap.size + 1) :
    AskS (W1.setCell ⟨X, 1, none⟩ (.slice (some ⟨g2, 0, none⟩) (n + 1) c2)) base X S g (catF n D (fun _ => y)) (n + 1) (.slice (some ⟨g2, 0, none⟩) (n + 1) c2) ∧ But3 X S v.ownBlock W (W1.setCell ⟨X, 1, none⟩ (.slice (some ⟨g2, 0, none⟩) (n + 1) c2)) ∧ (v.ownBlock = some g2 ∨ W.heap.size ≤ g2) := by
  have hal := (Below.refl W.heap.size W).alloc (Nat.le_refl _) o
  have hk := h.kept hal
  have hX : W1.heap[X]? = (W.alloc o).heap[X]? := hg.block X hk.ltX fun e => h.vX e.symm
  have hS : W1.heap[S]? = (W.alloc o).heap[S]? := hg.block S hk.ltS fun e => h.vS e.symm
  have far : ∀ (b : Nat), b ≠ X → (W1.setCell ⟨X, 1, none⟩ (.slice (some ⟨g2, 0, none⟩) (n + 1) c2)).heap[b]? = W1.heap[b]? := fun b hb => Below.heap_setCell _ _ _ _ hb
  have gX : g2 ≠ X := by
    rcases hat with e | e
    · intro e2; exact h.vX (by rw [e, e2])
    · have := h.ltX; omega
  have gS : g2 ≠ S := by
    rcases hat with e | e
    · intro e2; exact h.vS (by rw [e, e2])
    · have := h.ltS; omega
  refine ⟨⟨?_, World.cell?_setCell_same _ _ _ ((World.cell?_of_block (w := W.alloc o) hX).trans hk.cv), ?_, ?_, fun j hj => ?_, fun j hj => ?_, h.ne, h.lX, h.lS, ?_, ?_⟩, ⟨?_, ?_, ?_, ?_, fun k hk h1 h2 h3 => ?_⟩, ?_⟩
  · rw [World.cell?_setCell_other _ _ _ _ (by intro e2; simp only [Addr.mk.injEq] at e2; omega)]
    exact (World.cell?_of_block (w := W.alloc o) hX).trans hk.cp
  · rw [World.frozen?_setCell]
    exact (World.frozen?_of_block (w := W.alloc o) hX).trans hk.fv
  · have e : Own W1 base (.slice (some ⟨g2, 0, none⟩) (n + 1) c2) (n + 1) (catF n D (fun _ => y)) := by
      unfold Own
      rw [← cellsOf_snoc]; exact h6
    refine ⟨e.1, ?_⟩
    rcases e.2 with ⟨h2, _⟩ | ⟨q, cap, cur, hv, hq, hh, r⟩
    · cases h2
    · have e3 : g2 = q := by injection hv with e4; injection e4 with e5; injection e5
      subst e3
      exact .inr ⟨g2, cap, cur, hv, hq, (far g2 gX).trans hh, r⟩
  · exact (World.cell?_of_block (w := W1) (far S (Ne.symm h.ne))).trans ((World.cell?_of_block (w := W.alloc o) hS).trans (hk.sr j hj))
  · rw [World.frozen?_setCell]
    exact (World.frozen?_of_block (w := W.alloc o) hS).trans (hk.sf j hj)
  · intro e; exact gX (Option.some.inj e)
  · intro e; exact gS (Option.some.inj e)
  · exact hg.os.trans hal.os
  · exact hg.tape.trans hal.tape
  · exact hg.output.trans hal.output
  · rw [World.size_setCell]; exact Nat.le_trans hal.size hg.size
  · rw [far k h1, hg.block k (Nat.lt_of_lt_of_le hk hal.size) fun e => h3 e.symm]
    exact hal.block k hk
  · rcases hat with e | e
    · exact .inl e
    · exact .inr (by omega)
/-- A proof that was made lately stays. -/
theorem PfRow.but {w w' : World} {PB : Nat} {p : PQ} {m : PM} (h : PfRow w (some ⟨PB, 0, none⟩) p m) (hf : m.fresh p PB) (hk : ∀ k, PB ≤ k → k < w.heap.size → w'.heap[k]? = w.heap[k]?) : PfRow w' (some ⟨PB, 0, none⟩) p m := fun hn => by
  have cell : ∀ (b o : Nat) (u : Value), PB ≤ b → w.cell? ⟨b, o, none⟩ = some u → w'.cell? ⟨b, o, none⟩ = some u := fun b o u hb hc => (World.cell?_of_block (w := w) (hk b hb (World.block_lt_of_cell? w _ hc))).trans hc
  have prow : ∀ (b n : Nat) (f : Nat → Int), PB ≤ b → PRow w (some ⟨b, 0, none⟩) n f → PRow w' (some ⟨b, 0, none⟩) n f := fun b n f hb hp hn => by
    obtain ⟨b', o', e, hr⟩ := hp hn
    injection e with e; injection e with e1 e2
    subst e1; subst e2
    exact ⟨b, 0, rfl, fun j hj => cell _ _ _ hb (hr j hj)⟩
  obtain ⟨b, off, e, hr⟩ := h hn
  injection e with e; injection e with e1 e2
  subst e1; subst e2
  refine ⟨PB, 0, rfl, fun j hj => ?_⟩
  obtain ⟨h1, h2, h3, h4⟩ := hr j hj
  obtain ⟨⟨q1, e1, l1⟩, ⟨q2, e2, l2⟩, hA⟩ := hf j hj
  refine ⟨cell _ _ _ (Nat.le_refl _) h1, cell _ _ _ (Nat.le_refl _) h2, fun hn => ?_, ?_⟩
  · obtain ⟨b', o', e3, hr3⟩ := h3 hn
    rw [e1] at e3
    injection e3 with e3; injection e3 with e4 e5
    subst e4; subst e5
    refine ⟨q1, 0, e1, fun i hi => ⟨cell _ _ _ l1 (hr3 i hi).1, ?_⟩⟩
    obtain ⟨q, eq, lq⟩ := hA i hi
    have := (hr3 i hi).2
    rw [eq] at this ⊢
    exact prow q _ _ lq this
  · rw [e2] at h4 ⊢
    exact prow q2 _ _ l2 h4

end Go.Proofs.YtbchbmelofojkaaGreatDoor

/-
  Plain: the numbers that tell a circuit; a list of a call's own, told as a list; no program in it but types' numbers.
-/
namespace Go.Proofs.YtbchbmelofojkaaGreatDoor
open Go.RowKit
set_option linter.unusedVariables false

/-- What tells a gate, a layer, a circuit's first layers. -/
def gW (q : GQ) : List Int := [if q.mul = true then 1 else 0, q.a, q.b]
def gsW (gs : List GQ) : List Int := gs.flatMap gW
def lW (l : LQ) : List Int := l.log :: gsW l.gates
def wordsT (c : CQ) (t : Nat) : List Int := [c.log, (c.layers.length : Int)] ++ (c.layers.take t).flatMap lW
def cwordsQ (c : CQ) : List Int := wordsT c c.layers.length
theorem wordsT_next {c : CQ} {t : Nat} {l : LQ} (h : c.layers[t]? = some l) : wordsT c (t + 1) = wordsT c t ++ lW l := by
  unfold wordsT
  rw [List.take_add_one, h, List.flatMap_append]
  simp
theorem gsW_next {gs : List GQ} {s : Nat} {q : GQ} (h : gs[s]? = some q) : gsW (gs.take (s + 1)) = gsW (gs.take s) ++ gW q := by
  unfold gsW
  rw [List.take_add_one, h, List.flatMap_append]
  simp
theorem gsW_len (gs : List GQ) : (gsW gs).length = 3 * gs.length := by
  induction gs with
  | nil => rfl
  | cons q gs ih =>
    show (gW q ++ gsW gs).length = _
    rw [List.length_append, ih]
    simp [gW]; omega
theorem gates_few {c : CQ} (hc : c.right) {t : Nat} {l : LQ} (h : c.layers[t]? = some l) : l.gates.length ≤ 16 := by
  obtain ⟨h1, h2, _⟩ := hc.layer t l h
  rw [h2]
  exact Nat.le_trans (Nat.pow_le_pow_right (by omega) (show l.log.toNat ≤ 4 by omega)) (by decide)
theorem wordsT_len {c : CQ} (hc : c.right) (t : Nat) : (wordsT c t).length ≤ 2 + 49 * t := by
  induction t with
  | zero => simp [wordsT]
  | succ t ih =>
    by_cases h : t < c.layers.length
    · obtain ⟨l, hl⟩ : ∃ l, c.layers[t]? = some l := ⟨c.layers[t], by simp [h]⟩
      have hf := gates_few hc hl
      rw [wordsT_next hl, List.length_append]
      have : (lW l).length = 3 * l.gates.length + 1 := by unfold lW; rw [List.length_cons, gsW_len]
      omega
    · have e : wordsT c (t + 1) = wordsT c t := by
        unfold wordsT
        rw [List.take_of_length_le (by omega), List.take_of_length_le (by omega)]
      rw [e]; omega
theorem take_few (gs : List GQ) (s : Nat) : (gsW (gs.take s)).length ≤ 3 * s := by
  rw [gsW_len, List.length_take]; omega
/-- The same as numbers of a row. -/
def rowOf (xs : List Int) (j : Nat) : Int := xs.getD j 0
theorem rowOf_nums {xs : List Int} (h : ∀ x ∈ xs, 0 ≤ x ∧ x ≤ 18446744073709551615) : Nums (rowOf xs) := fun j => by
  unfold rowOf
  by_cases hj : j < xs.length
  · rw [List.getD_eq_getElem?_getD, List.getElem?_eq_getElem hj]
    exact h _ (List.getElem_mem hj)
  · rw [List.getD_eq_getElem?_getD, List.getElem?_eq_none (by omega)]
    decide
theorem words_nums {c : CQ} (hc : c.right) : Nums (rowOf (cwordsQ c)) := by
  refine rowOf_nums fun x hx => ?_
  unfold cwordsQ wordsT at hx
  rw [List.take_of_length_le (Nat.le_refl _)] at hx
  rcases List.mem_append.1 hx with h | h
  · have h1 := hc.log
    have h2 := hc.few
    simp only [List.mem_cons, List.not_mem_nil, or_false] at h
    omega
  · obtain ⟨l, hl, hm⟩ := List.mem_flatMap.1 h
    obtain ⟨t, ht, rfl⟩ := List.getElem_of_mem hl
    obtain ⟨h1, h2, h3⟩ := hc.layer t c.layers[t] (by simp)
    obtain ⟨k, hk, k4⟩ := belowQ_rng hc t
    rw [hk, Int.toNat_natCast] at h3
    have h16 : 2 ^ k ≤ 16 := Nat.le_trans (Nat.pow_le_pow_right (by omega) k4) (by decide)
    rcases List.mem_cons.1 hm with h | h
    · omega
    · obtain ⟨q, hq, hx⟩ := List.mem_flatMap.1 h
      obtain ⟨⟨a0, a1⟩, b0, b1⟩ := h3 q hq
      unfold gW at hx
      simp only [List.mem_cons, List.not_mem_nil, or_false] at hx
      rcases hx with h | h | h
      · rw [h]; split <;> omega
      · omega
      · omega
/-- v is a list of the call's own: these numbers. -/
def OwnX (w : World) (base : Nat) (v : Value) (xs : List Int) : Prop := w.ownsRow base 31 1 v xs.length (xs.map (Value.int .u64))
theorem cells_row (xs : List Int) : cellsOf xs.length (rowOf xs) = xs.map (Value.int .u64) := by
  apply List.ext_getElem?
  intro j
  by_cases h : j < xs.length
  · rw [cellsOf_at _ _ j h]
    simp [rowOf, h]
  · rw [cellsOf_past _ _ j (by omega)]
    simp [h]
theorem OwnX.own {w : World} {base : Nat} {v : Value} {xs : List Int} (h : OwnX w base v xs) : Own w base v xs.length (rowOf xs) := by
  unfold Own
  rw [cells_row]; exact h
theorem OwnX.kept {w w' : World} {base : Nat} {v : Value} {xs : List Int} (h : OwnX w base v xs) (hb : Below w.heap.size w w') : OwnX w' base v xs := by
  have := h.own.kept hb
  unfold Own at this
  rw [cells_row] at this
  exact this
theorem OwnX.drew {w : World} {base : Nat} {v : Value} {xs : List Int} (h : OwnX w base v xs) : OwnX w.drew base v xs := h
theorem ints_one (xs : List Int) : ∀ u ∈ xs.map (Value.int .u64), u.oneCell' = true := by
  intro u hu
  obtain ⟨x, _, rfl⟩ := List.mem_map.1 hu
  rfl
theorem ints_news (w : World) (xs : List Int) (t : TypeId) : ∀ j u, (xs.map (Value.int .u64))[j]? = some u → (w.alloc (.cells (xs.map (Value.int .u64)).toArray t)).cell? ((⟨w.heap.size, 0, none⟩ : Addr).add j) = some u := by
  intro j u hj
  rw [Addr.add_lit, Nat.zero_add, World.cell?_alloc_new]
  simpa using hj

end Go.Proofs.YtbchbmelofojkaaGreatDoor

/-
  Contracts of package fiat's kind, draw, hear and filled.
-/
namespace Go.Proofs.YtbchbmelofojkaaGreatDoor
open Go.RowKit
set_option linter.unusedVariables false
attribute [local go_sem ↓] Go.wp_at_zero Go.wp_at_succ

set_option maxHeartbeats 1000000 in
theorem kind_any (m : Bool) (a b : Int) (w : World) :
    Calls Tryz.prog 127 #[.agg #[.bool m, .int .i64 a, .int .i64 b]] w fun e w' => e = .returned (.int .u64 (if m = true then 1 else 0)) ∧ Below w.heap.size w w' := by
  have HB := hid ((Below.refl w.heap.size w).alloc (Nat.le_refl _) (.cells #[.bool m, .int .i64 a, .int .i64 b] 100))
  cases m with
  | false =>
    go_enter Tryz.func127, Tryz.ntmps127
    go_wp2_with fail
    go_ret
    exact ⟨rfl, HB.out⟩
  | true =>
    go_enter Tryz.func127, Tryz.ntmps127
    go_wp2_with fail
    go_ret
    exact ⟨rfl, HB.out⟩

theorem AskS.congr {W : World} {base X S : Nat} {g : Nat → K} {D D' : Nat → Int} {n : Nat} {v : Value} (h : AskS W base X S g D n v) (e : ∀ j, j < n → D j = D' j) : AskS W base X S g D' n v := ⟨h.cp, h.cv, h.fv, h.own.congr e, h.sr, h.sf, h.ne, h.lX, h.lS, h.vX, h.vS⟩
/-- What append leaves of the struct itself. -/
theorem AskS.mid {W W1 : World} {base X S : Nat} {g : Nat → K} {D : Nat → Int} {n : Nat} {v : Value} {o : Obj} (h : AskS W base X S g D n v) (hg : (W.alloc o).grownBy W1 v.ownBlock) : W1.cell? ⟨X, 1, none⟩ = some v ∧ W1.frozen? ⟨X, 1, none⟩ = false := by
  have hk := h.kept ((Below.refl W.heap.size W).alloc (Nat.le_refl _) o)
  have hX : W1.heap[X]? = (W.alloc o).heap[X]? := hg.block X hk.ltX fun e => h.vX e.symm
  exact ⟨(World.cell?_of_block (w := W.alloc o) hX).trans hk.cv, (World.frozen?_of_block (w := W.alloc o) hX).trans hk.fv⟩
theorem AskS.old {W : World} {base X S : Nat} {g : Nat → K} {D : Nat → Int} {n : Nat} {v : Value} (h : AskS W base X S g D n v) (o : Obj) : (W.alloc o).cell? ⟨X, 0, none⟩ = some (.pointer (some ⟨S, 0, none⟩)) ∧ (W.alloc o).cell? ⟨X, 1, none⟩ = some v := by
  have hk := h.kept ((Below.refl W.heap.size W).alloc (Nat.le_refl _) o)
  exact ⟨hk.cp, hk.cv⟩
theorem undrew_grown {w w2 : World} {r : Option Nat} (h : w.drew.grownBy w2 r) : w.grownBy w2 r := ⟨h.os, h.tape, h.output, h.size, h.block⟩
theorem dnews (w : World) (x : Int) (t : TypeId) : ∀ j u, [Value.int .u64 x][j]? = some u → (w.alloc (.cells #[.int .u64 x] t)).cell? ((⟨w.heap.size, 0, none⟩ : Addr).add j) = some u := by
  intro j u hj
  match j, hj with
  | 0, hj => simp at hj; subst hj; simp [Addr.add]
theorem done1 (x : Int) : ∀ u ∈ [Value.int .u64 x], u.oneCell' = true := by intro u hu; simp at hu; subst hu; rfl

/-- What a draw leaves. -/
def drawOut (w : World) (base X S : Nat) (g : Nat → K) (D : Nat → Int) (n : Nat) (v : Value) (w' : World) : Prop := ∃ v', AskS w' base X S (mixed g) (catF n D (fun _ => ofK (g 1))) (n + 1) v' ∧ But3 X S v.ownBlock w w' ∧ ∀ k, v'.ownBlock = some k → v.ownBlock = some k ∨ w.heap.size ≤ k
set_option maxHeartbeats 4000000 in
set_option maxRecDepth 100000 in
theorem draw_any (base X S : Nat) (g : Nat → K) (D : Nat → Int) (n : Nat) (v : Value) (w : World) (h : AskS w base X S g D n v) (hn : n ≤ 1000) :
    Calls Tryz.prog 119 #[.pointer (some ⟨X, 0, none⟩)] w fun e w' => e = .returned (.tuple #[]) ∧ drawOut w base X S g D n v w' := by
  unfold drawOut
  obtain ⟨i0, hi, hz0, hz1, hz2⟩ := info_parts Tryz.infoO
  have HI := hid (And.intro hi (And.intro hz0 (And.intro hz1 hz2)))
  have hG := give_any S g w.drew h.drew.sr h.drew.sf
  obtain ⟨y, hy⟩ : ∃ y, ofK (g 1) = y := ⟨_, rfl⟩
  rw [hy] at hG
  rw [hy]
  have HG := hid hG
  have HH := hid h
  have z0 := h.cp
  have z1 := h.cv
  clear hi hz0 hz1 hz2 hG hy h
  go_enter Tryz.func119, Tryz.ntmps119
  go_region_law (first
    | (refine step_append_lies _ (by rfl) (.tmp 6) (.tmp 12) 22 (by rfl) base 31 i0 (.int .u64 0) 1 8 Tryz.underlying22 HI.out.1 HI.out.2.1 HI.out.2.2.1 HI.out.2.2.2 rfl (by decide) v n (cellsOf n D) (by rfl) (World.ownsRow.alloc HA.out.own _) ⟨w1.heap.size, 0, none⟩ 1 1 [.int .u64 y] (by rfl) (by rfl) (dnews w1 y _) (done1 y) (by omega) (by unfold maxLen; omega) (by omega) (by simp; omega) (w1.heap.size + 1) (by simp) ?_; intro g6 c6 w6 hown6 hgrow6 hat6 hlt6; have q1 := (HA.out.mid hgrow6).1; have q2 := (HA.out.mid hgrow6).2)
    | (go_simp; go_at_call 129; refine (HG.out).mono ?_; rintro e w1 ⟨rfl, ht, hr, hf⟩; have HT := hid ht; have HA := hid (HH.out.drew.turn ht hr hf); have y0 := HA.out.cp; have y1 := HA.out.cv; have x0 := fun o => (HA.out.old o).1; have x1 := fun o => (HA.out.old o).2; have hs := HA.out.le; clear ht hr hf))
  all_goals (go_wp2_with fail)
  all_goals go_end0
  all_goals
    have hp := HA.out.put hown6 hgrow6 hat6
    have hsz : w.heap.size ≤ w1.heap.size := HT.out.size
    exact ⟨rfl, _, hp.1, (But3.of_turned HT.out).undrew.trans hp.2.1 (fun k e => .inl e), fun k e => by
      have e2 : g6 = k := Option.some.inj e
      subst e2
      rcases hp.2.2 with e3 | e3
      · exact .inl e3
      · exact .inr (by omega)⟩

set_option maxHeartbeats 1000000 in
set_option maxRecDepth 100000 in
theorem hear_any (base X S : Nat) (g : Nat → K) (D : Nat → Int) (n : Nat) (v : Value) (ao : Option Addr) (m cap : Nat) (f : Nat → Int) (w : World) (h : AskS w base X S g D n v) (hn : n ≤ 1000) (hp : PRow w ao m f) (hv : Nums f) (hne : 0 < m → ∀ c o, ao = some ⟨c, o, none⟩ → c ≠ S) :
    Calls Tryz.prog 96 #[.pointer (some ⟨X, 0, none⟩), .slice ao m cap] w fun e w' => e = .returned (.tuple #[]) ∧ drawOut w base X S (tkK g m f) D n v w' := by
  have HT := hid (take_all S g ao m cap f w h.sr h.sf hp hv hne)
  have HH := hid h
  have z0 := h.cp
  clear h hp hv hne
  go_enter Tryz.func96, Tryz.ntmps96
  go_wp2_with fail
  refine (HT.out).mono ?_
  rintro e w1 ⟨rfl, ht, hr, hf⟩
  have HA := hid (HH.out.turn ht hr hf)
  have HT1 := hid ht
  clear ht hr hf z0
  go_wp2_with fail
  refine (draw_any base X S _ D n v w1 HA.out hn).mono ?_
  rintro e w2 ⟨rfl, v', ha, hb, hk⟩
  have HA2 := hid ha
  have HB2 := hid hb
  have HK2 := hid hk
  clear ha hb hk
  go_wp2_with fail
  go_end0
  exact ⟨rfl, v', HA2.out, (But3.of_turned HT1.out).trans HB2.out (fun k e => .inl e), fun k e => (HK2.out k e).imp_right fun h => Nat.le_trans HT1.out.size h⟩

set_option maxHeartbeats 1000000 in
set_option maxRecDepth 100000 in
theorem filled_any (base X S : Nat) (g : Nat → K) (D : Nat → Int) (n : Nat) (v : Value) (N : Nat) (w : World) (h : AskS w base X S g D n v) (hn : n ≤ N) (hN : N ≤ 1000) :
    Calls Tryz.prog 95 #[.pointer (some ⟨X, 0, none⟩), .int .i64 (N : Int)] w fun e w' => e = .returned (.slice (some ⟨w.heap.size, 0, none⟩) N N) ∧ Made w w' N (filF n D) := by
  have z1 := (h.old (.cells (madeCells #[.int .u64 0] N) 31)).2
  obtain ⟨ao, c, rfl, hp, _⟩ := h.own.is
  have HP := hid (hp.kept (w' := w.alloc (.cells (madeCells #[.int .u64 0] N) 31)) ((Below.refl _ w).alloc (Nat.le_refl _) _))
  have HB := hid ((Below.refl w.heap.size w).alloc (Nat.le_refl _) (.cells (madeCells #[.int .u64 0] N) 31))
  have HH : Hid ((w.alloc (.cells (madeCells #[.int .u64 0] N) 31)).heap[w.heap.size]? = some (.cells (cellsOf N (fun _ => 0)).toArray 31 (0, 0))) := hid (by rw [made_zero]; exact (MapKept.heap_alloc _ _).1)
  have hmk := run_make_row' (P := Tryz.prog) 22 31 (.int .u64 0) 8 Tryz.underlying22 Tryz.infoO rfl .i64 .i64 N (by omega) (by omega)
  clear hp h
  go_enter Tryz.func95, Tryz.ntmps95
  go_wp2_with (with_reducible (show wpList _ _ _ ({ dst := _, op := Op.call { callee := Callee.builtin Builtin.copy, args := _, argTypes := _ }, type := _, pos := _, after := _, guard := _ } :: _) _ _); refine wpList_copy_splice rfl _ _ 22 22 rfl 31 Tryz.underlying22 sizeN _ _ _ _ _ _ rfl rfl w.heap.size 0 (cellsOf N (fun _ => 0)) 31 HH.out (cellsOf n D) ?q1 ?q2 ?q3 ?q4 w.heap.size w HB.out (Nat.le_refl _) ?_)
  case q1 => rw [cellsOf_len]; exact (Nat.min_eq_left hn).symm
  case q2 => exact fun h0 => src_cells HP.out (Nat.le_refl _) h0
  case q3 => rw [cellsOf_len, cellsOf_len]; omega
  case q4 => exact cellsOf_one _ _
  intro w1 hh hb
  have HM : Hid (Made w w1 N (filF n D)) := hid (made_of_heap hb (by rw [show filF n D = padF n D from rfl, ← splice_pad N n D hn]; exact hh.out))
  clear hh hb hmk z1
  go_wp2_with fail
  go_ret
  exact ⟨rfl, HM.out⟩

end Go.Proofs.YtbchbmelofojkaaGreatDoor

/-
  Contracts of package fiat's Words and inOrder: they make new rows and write nothing that was there.
-/
namespace Go.Proofs.YtbchbmelofojkaaGreatDoor
open Go.RowKit
set_option linter.unusedVariables false
attribute [local go_sem ↓] Go.wp_at_zero Go.wp_at_succ

/-- What append leaves, of such a list. -/
theorem xsnoc {w wr w6 : World} {E g2 c2 : Nat} {v : Value} {xs ys : List Int} {o : Obj} (hb : Below E w wr) (hs : E ≤ wr.heap.size) (hown : OwnX wr E v xs)
    (h6 : w6.ownsRow E 31 1 (.slice (some ⟨g2, 0, none⟩) (xs.length + ys.length) c2) (xs.length + ys.length) (xs.map (Value.int .u64) ++ ys.map (Value.int .u64))) (hg : (wr.alloc o).grownBy w6 v.ownBlock) : OwnX w6 E (.slice (some ⟨g2, 0, none⟩) (xs.length + ys.length) c2) (xs ++ ys) ∧ Below E w w6 := by
  refine ⟨?_, (hb.alloc hs o).grown hg (by simp; omega) fun k e => ?_⟩
  · unfold OwnX
    rw [List.length_append, List.map_append]
    exact h6
  · exact (World.ownsRow.lt hown k e).1
theorem OwnX.two (w : World) (E : Nat) (x y : Int) (hE : E ≤ w.heap.size) : OwnX (w.alloc (.cells #[.int .u64 x, .int .u64 y] 31)) E (.slice (some ⟨w.heap.size, 0, none⟩) 2 2) [x, y] :=
  ⟨rfl, .inr ⟨w.heap.size, 2, #[.int .u64 x, .int .u64 y], rfl, hE, World.alloc_heap_new w _, Nat.le_refl _, by decide, rfl, rfl⟩⟩
theorem three_news (w : World) (x y z : Int) (t : TypeId) : ∀ j u, [Value.int .u64 x, .int .u64 y, .int .u64 z][j]? = some u → (w.alloc (.cells #[.int .u64 x, .int .u64 y, .int .u64 z] t)).cell? ((⟨w.heap.size, 0, none⟩ : Addr).add j) = some u := by
  intro j u hj
  rw [Addr.add_lit, Nat.zero_add, World.cell?_alloc_new]
  match j, hj with
  | 0, hj => exact hj
  | 1, hj => exact hj
  | 2, hj => exact hj
theorem three_one (x y z : Int) : ∀ u ∈ [Value.int .u64 x, .int .u64 y, .int .u64 z], u.oneCell' = true := by
  intro u hu
  simp only [List.mem_cons, List.not_mem_nil, or_false] at hu
  rcases hu with h | h | h <;> (subst h; rfl)

/-- A gate's three cells. -/
abbrev ThreeC (G : Nat) (x y z : Value) (W : World) : Prop := W.cell? ⟨G, 0, none⟩ = some x ∧ W.cell? ⟨G, 1, none⟩ = some y ∧ W.cell? ⟨G, 2, none⟩ = some z
theorem ThreeC.kept {G : Nat} {x y z : Value} {W W' : World} (h : ThreeC G x y z W) (hb : Below W.heap.size W W') : ThreeC G x y z W' := ⟨(hb.cell (World.block_lt_of_cell? W _ h.1)).trans h.1, (hb.cell (World.block_lt_of_cell? W _ h.2.1)).trans h.2.1, (hb.cell (World.block_lt_of_cell? W _ h.2.2)).trans h.2.2⟩
theorem ThreeC.old {G : Nat} {x y z : Value} {W : World} (h : ThreeC G x y z W) (o : Obj) : ThreeC G x y z (W.alloc o) := h.kept ((Below.refl W.heap.size W).alloc (Nat.le_refl _) o)
theorem ThreeC.grown {G : Nat} {x y z : Value} {W W' : World} {o : Obj} {r : Option Nat} (h : ThreeC G x y z W) (hg : (W.alloc o).grownBy W' r) (hr : some G ≠ r) : ThreeC G x y z W' := by
  have h2 := h.old o
  exact ⟨hg.cell h2.1 hr, hg.cell h2.2.1 hr, hg.cell h2.2.2 hr⟩

/-- What Words tells of a right circuit. -/
def wordsOut (c : CQ) (w : World) (e : Ending) (w' : World) : Prop := ∃ v, e = .returned (.tuple #[v, .int .i64 0]) ∧ Own w' w.heap.size v (cwordsQ c).length (rowOf (cwordsQ c)) ∧ Below w.heap.size w w'
set_option maxHeartbeats 8000000 in
set_option maxRecDepth 100000 in
theorem words_ok (c : CQ) (g : Int) (b off n cap : Nat) (A : Nat → Option Addr) (C : Nat → Nat) (w : World) (hg : c.log = g) (hn : c.layers.length = n) (hr : CRow w (some ⟨b, off, none⟩) c.layers A C) (hc : c.right) :
    Calls Tryz.prog 117 #[.agg #[.int .i64 g, .slice (some ⟨b, off, none⟩) n cap]] w fun e w' => wordsOut c w e w' := by
  obtain ⟨i0, hi, hz0, hz1, hz2⟩ := info_parts Tryz.infoO
  have HI := hid (And.intro hi (And.intro hz0 (And.intro hz1 hz2)))
  have HS0 := hid (StW.start w g (.slice (some ⟨b, off, none⟩) n cap) 25)
  have HCK : Hid (∀ W, Below w.heap.size w W → Calls Tryz.prog 55 #[.agg #[.int .i64 g, .slice (some ⟨b, off, none⟩) n cap]] W fun e w' => e = .returned (.int .i64 0) ∧ Below W.heap.size W w') := hid (fun W h => (check_any c g _ n cap A C W hg hn (hr.kept h)).mono fun e w' ⟨y, he, hy, hb⟩ => ⟨by rw [he, checkE_one hy (checkE_zero.2 hc)], hb⟩)
  have n4 : n ≤ 4 := by have := hc.few; omega
  have g4 : 0 ≤ g ∧ g ≤ 4 := by rw [← hg]; exact hc.log
  have wg : IntKind.u64.wrap g = g := by rw [IntKind.wrap_u64]; omega
  have wn : IntKind.u64.wrap (n : Int) = (n : Int) := by rw [IntKind.wrap_u64]; omega
  have HR := hid hr
  have HN := hid hn
  have HC := hid hc
  have HG := hid hg
  clear hi hz0 hz1 hz2 hr hn hc hg
  go_enter Tryz.func117, Tryz.ntmps117
  go_wp2_with fail
  obtain ⟨X, hX⟩ : ∃ X, w.heap.size = X := ⟨_, rfl⟩
  rw [hX] at HS0
  rw [hX]
  clear hX
  generalize w.alloc (.cells #[.int .i64 g, .slice (some ⟨b, off, none⟩) n cap] 25) = W0 at HS0 ⊢
  refine (HCK.out _ HS0.out.bel).mono ?_
  rintro e w1 ⟨rfl, hb⟩
  have HS1 := hid (HS0.out.next hb)
  clear hb HS0 HCK
  obtain ⟨z0, z1, zl⟩ := HS1.out.box
  obtain ⟨E, hE⟩ : ∃ E, w1.heap.size = E := ⟨_, rfl⟩
  have HEE := hid hE
  have HO0 : Hid (OwnX (w1.alloc (.cells #[.int .u64 g, .int .u64 (n : Int)] 31)) E (.slice (some ⟨w1.heap.size, 0, none⟩) 2 2) (wordsT c 0)) := hid (by
    have h := OwnX.two w1 E g (n : Int) (by omega)
    rw [← HG.out, ← HN.out] at h ⊢
    exact h)
  have HB0 : Hid (Below E w1 (w1.alloc (.cells #[.int .u64 g, .int .u64 (n : Int)] 31))) := hid (by rw [← hE]; exact (Below.refl _ w1).alloc (Nat.le_refl _) _)
  clear hE
  go_wp2_with fail
  clear z0 z1 zl wg wn
  generalize w1.alloc (.cells #[.int .u64 g, .int .u64 (n : Int)] 31) = W2 at HO0 HB0 ⊢
  go_loopg [26, 5] n (fun q i s wr => ∃ (t : Nat) (v : Value), t ≤ n ∧ q = n - t ∧ i = .int .i64 (t : Int) ∧ s = v ∧ Hid (OwnX wr E v (wordsT c t)) ∧ Hid (Below E w1 wr))
  case atStart => exact ⟨0, _, by omega, rfl, rfl, rfl, HO0, HB0⟩
  case round =>
    clear HO0 HB0
    obtain ⟨t, v, ht, rfl, rfl, hv, HO, HB⟩ := hrel
    obtain rfl := hv.symm
    have hs : E ≤ wr.heap.size := by have h1 := HB.out.size; have h2 := HEE.out; omega
    have HBW : Hid (∀ W, Below E w1 W → Below w.heap.size w W) := hid (fun W h => HS1.out.bel.trans (h.mono (by rw [← HEE.out]; exact HS1.out.bel.size)))
    by_cases htl : t < n
    · obtain ⟨l, hl⟩ : ∃ l, c.layers[t]? = some l := ⟨c.layers[t]'(by rw [HN.out]; exact htl), by simp⟩
      obtain ⟨b', off', eb, hcc⟩ := HR.out.kept (HBW.out _ HB.out) (by intro e; have := HN.out; rw [e] at this; simp at this; omega)
      cases eb
      obtain ⟨x0, x1, _, _⟩ := hcc t l hl
      rw [Nat.mul_comm 2 t] at x0 x1
      have hlr := (HC.out.layer t l hl).1
      have hfew := gates_few HC.out hl
      have hgo := (HC.out.layer t l hl).2.2
      have hbel := belowQ_rng HC.out t
      have HGR : Hid (∀ W, Below E w1 W → GRow W (A t) l.gates) := hid (fun W h => by
        obtain ⟨b', off', eb, hcc⟩ := HR.out.kept (HBW.out _ h) (by intro e; have := HN.out; rw [e] at this; simp at this; omega)
        exact (hcc t l hl).2.2.1)
      have klen := wordsT_len HC.out t
      obtain ⟨lg, hlg⟩ : ∃ x, l.log = x := ⟨_, rfl⟩
      obtain ⟨m, hm⟩ : ∃ x, l.gates.length = x := ⟨_, rfl⟩
      obtain ⟨ga, hga⟩ : ∃ x, A t = x := ⟨_, rfl⟩
      obtain ⟨gc, hgc⟩ : ∃ x, C t = x := ⟨_, rfl⟩
      rw [hlg] at x0 hlr
      rw [hm, hga, hgc] at x1
      rw [hm] at hfew
      rw [hga] at HGR
      have wl : IntKind.u64.wrap lg = lg := by rw [IntKind.wrap_u64]; omega
      have HL := hid (And.intro hl (And.intro hlg hm))
      have HGO := hid (And.intro hgo hbel)
      clear hcc hl hlg hm hga hgc hgo hbel
      have t0 : (0 : Int) ≤ (t : Int) := by omega
      have t1 : (t : Int) < (n : Int) := by omega
      have hal := (Below.refl wr.heap.size wr).alloc (Nat.le_refl _) (.cells #[.int .i64 lg, .slice ga m gc] 96)
      have HB3 := hid (HB.out.trans (hal.mono hs))
      have HO3 := hid (HO.out.kept hal)
      have HX3 := hid (Box2.new wr (.int .i64 lg) (.slice ga m gc) 96)
      have HNE : Hid (some wr.heap.size ≠ v.ownBlock) := hid (fun e => by have := (World.ownsRow.lt HO.out _ e.symm).2; omega)
      have hs3 : E ≤ (wr.alloc (.cells #[.int .i64 lg, .slice ga m gc] 96)).heap.size := by simp; omega
      clear hal
      go_upto_region 8 with fail
      clear x0 x1 t0 t1
      obtain ⟨LB, hLB⟩ : ∃ x, wr.heap.size = x := ⟨_, rfl⟩
      rw [hLB] at HX3 HNE
      rw [hLB]
      clear hLB hs HO HB
      generalize wr.alloc (.cells #[.int .i64 lg, .slice ga m gc] 96) = W3 at HB3 HO3 HX3 hs3 ⊢
      obtain ⟨l0, l1, ll⟩ := HX3.out
      go_wp2_with (at_builtin; refine wpList_append_lies _ rfl _ _ 22 rfl E 31 i0 (.int .u64 0) 1 8 Tryz.underlying22 HI.out.1 HI.out.2.1 HI.out.2.2.1 HI.out.2.2.2 rfl (by decide) v (wordsT c t).length ((wordsT c t).map (Value.int .u64)) rfl (World.ownsRow.alloc HO3.out _) ⟨W3.heap.size, 0, none⟩ 1 1 [.int .u64 lg] rfl rfl (dnews W3 lg _) (done1 lg) (by omega) (by unfold maxLen; omega) (by omega) (by simp; omega) (W3.heap.size + 1) (by simp) ?_)
      intro g6 c6 w6 hown6 hgrow6 hat6 hlt6
      have HX6 := hid (xsnoc (ys := [lg]) HB3.out hs3 HO3.out hown6 hgrow6)
      have k1 : w6.cell? ⟨LB, 1, none⟩ = some (.slice ga m gc) := hgrow6.cell ((HX3.out.kept ((Below.refl W3.heap.size W3).alloc (Nat.le_refl _) _)).c1) HNE.out
      clear hown6 hgrow6 hat6 hlt6 l0 l1 ll HX3 HO3 HB3 HNE hs3 wl
      go_wp2_with fail
      clear k1
      go_loopg [39, 5] m (fun q i s wx => ∃ (k : Nat) (u : Value), k ≤ m ∧ q = m - k ∧ i = .int .i64 (k : Int) ∧ s = u ∧ Hid (OwnX wx E u (wordsT c t ++ lg :: gsW (l.gates.take k))) ∧ Hid (Below E w1 wx))
      case atStart => exact ⟨0, _, by omega, rfl, rfl, rfl, hid (by rw [List.take_zero]; exact HX6.out.1), hid HX6.out.2⟩
      case round =>
        clear HX6
        obtain ⟨k, u, hk, rfl, rfl, hu, HO, HB⟩ := hrel
        obtain rfl := hu.symm
        have hs : E ≤ wr.heap.size := by have h1 := HB.out.size; have h2 := HEE.out; omega
        by_cases hkl : k < m
        · obtain ⟨q, hq⟩ : ∃ q, l.gates[k]? = some q := ⟨l.gates[k]'(by rw [HL.out.2.2]; exact hkl), by simp⟩
          obtain ⟨gb, go, rfl, hgc⟩ := HGR.out _ HB.out (by intro e; have := HL.out.2.2; rw [e] at this; simp at this; omega)
          obtain ⟨q0, q1, q2⟩ := hgc k q hq
          rw [Nat.mul_comm 3 k] at q0 q1 q2
          obtain ⟨⟨a0, a1⟩, b0, b1⟩ := HGO.out.1 q (List.mem_of_getElem? hq)
          obtain ⟨bk, hbk, bk4⟩ := HGO.out.2
          have h16 : 2 ^ bk ≤ 16 := Nat.le_trans (Nat.pow_le_pow_right (by omega) bk4) (by decide)
          rw [hbk, Int.toNat_natCast] at a1 b1
          have HNX : Hid (gsW (l.gates.take (k + 1)) = gsW (l.gates.take k) ++ [if q.mul = true then 1 else 0, q.a, q.b]) := hid (gsW_next hq)
          have hlen : (wordsT c t ++ lg :: gsW (l.gates.take k)).length ≤ 3 + 49 * t + 3 * k := by
            rw [List.length_append, List.length_cons]
            have := take_few l.gates k
            omega
          obtain ⟨xs, hxs⟩ : ∃ xs, wordsT c t ++ lg :: gsW (l.gates.take k) = xs := ⟨_, rfl⟩
          rw [hxs] at HO hlen
          have HXS := hid hxs
          obtain ⟨mb, hmb⟩ : ∃ x, q.mul = x := ⟨_, rfl⟩
          obtain ⟨qa, hqa⟩ : ∃ x, q.a = x := ⟨_, rfl⟩
          obtain ⟨qb, hqb⟩ : ∃ x, q.b = x := ⟨_, rfl⟩
          rw [hmb, hqa, hqb] at HNX
          rw [hmb] at q0
          rw [hqa] at q1 a0 a1
          rw [hqb] at q2 b0 b1
          obtain ⟨kv, hkv⟩ : ∃ x : Int, (if mb = true then 1 else 0) = x := ⟨_, rfl⟩
          have HKI := hid (fun W => kind_any mb qa qb W)
          rw [hkv] at HKI HNX
          have wa : IntKind.u64.wrap qa = qa := by rw [IntKind.wrap_u64]; omega
          have wb : IntKind.u64.wrap qb = qb := by rw [IntKind.wrap_u64]; omega
          clear hgc hq hmb hqa hqb hkv hbk hxs a0 a1 b0 b1 bk4 h16
          have k0 : (0 : Int) ≤ (k : Int) := by omega
          have k1 : (k : Int) < (m : Int) := by omega
          have hal := (Below.refl wr.heap.size wr).alloc (Nat.le_refl _) (.cells #[.bool mb, .int .i64 qa, .int .i64 qb] 100)
          have HB3 := hid (HB.out.trans (hal.mono hs))
          have HO3 := hid (HO.out.kept hal)
          have HTH : Hid (ThreeC wr.heap.size (.bool mb) (.int .i64 qa) (.int .i64 qb) (wr.alloc (.cells #[.bool mb, .int .i64 qa, .int .i64 qb] 100))) := hid ⟨by rw [World.cell?_alloc_new]; rfl, by rw [World.cell?_alloc_new]; rfl, by rw [World.cell?_alloc_new]; rfl⟩
          have HNE : Hid (some wr.heap.size ≠ u.ownBlock) := hid (fun e => by have := (World.ownsRow.lt HO.out _ e.symm).2; omega)
          have hs3 : E ≤ (wr.alloc (.cells #[.bool mb, .int .i64 qa, .int .i64 qb] 100)).heap.size := by simp; omega
          clear hal
          go_wp2_with fail
          clear q0 q1 q2 k0 k1
          obtain ⟨GB, hGB⟩ : ∃ x, wr.heap.size = x := ⟨_, rfl⟩
          rw [hGB] at HTH HNE
          rw [hGB]
          clear hGB hs HO HB
          generalize wr.alloc (.cells #[.bool mb, .int .i64 qa, .int .i64 qb] 100) = W3 at HB3 HO3 HTH hs3 ⊢
          have th := HTH.out
          go_region_held3 (ThreeC GB (.bool mb) (.int .i64 qa) (.int .i64 qb)) (first | assumption | exact th | exact thk | exact thk.old _ | exact th6) (first
            | (go_at_call 127; refine (HKI.out _).mono ?_; rintro e wk ⟨rfl, hb⟩; have hbk : Below W3.heap.size W3 wk := (Below.refl _ W3).drew.trans hb; have thk := th.kept hbk; have HOk := hid (HO3.out.kept hbk); have hsk : E ≤ wk.heap.size := Nat.le_trans hs3 hbk.size; clear hb)
            | (refine step_append_lies _ (by rfl) _ _ 22 (by rfl) E 31 i0 (.int .u64 0) 1 8 Tryz.underlying22 HI.out.1 HI.out.2.1 HI.out.2.2.1 HI.out.2.2.2 rfl (by decide) u xs.length (xs.map (Value.int .u64)) (by rfl) (World.ownsRow.alloc HOk.out _) ⟨wk.heap.size, 0, none⟩ 3 3 [.int .u64 kv, .int .u64 qa, .int .u64 qb] (by rfl) (by rfl) (three_news wk kv qa qb _) (three_one kv qa qb) (by omega) (by unfold maxLen; omega) (by omega) (by simp; omega) (wk.heap.size + 1) (by simp) ?_; intro g6 c6 w6 hown6 hgrow6 hat6 hlt6; have th6 := thk.grown hgrow6 HNE.out))
          have HX6 := hid (xsnoc (ys := [kv, qa, qb]) (HB3.out.trans (hbk.mono hs3)) hsk HOk.out hown6 hgrow6)
          clear hown6 hgrow6 hat6 hlt6 th th6 thk hbk hsk HOk HTH HO3 HB3 HNE hs3 wa wb hlen HKI
          go_wp2_with fail
          go_roundg (m - (k + 1))
          case measure => go_light; omega
          case rel => exact ⟨k + 1, _, by omega, rfl, by go_num, rfl, hid (by rw [HNX.out, ← List.cons_append, ← List.append_assoc, HXS.out]; exact HX6.out.1), hid HX6.out.2⟩
        · have e : k = m := by omega
          subst e
          have k1 : ¬ ((k : Int) < (k : Int)) := by omega
          go_wp2_with fail
          go_roundg (n - (t + 1))
          case measure => go_light; omega
          case rel => exact ⟨t + 1, _, by omega, rfl, by go_num, rfl, hid (by
            have h := HO.out
            rw [List.take_of_length_le (by rw [HL.out.2.2]; exact Nat.le_refl _), ← HL.out.2.1] at h
            rw [wordsT_next HL.out.1]
            exact h), HB⟩
    · have e : t = n := by omega
      have t1 : ¬ ((t : Int) < (n : Int)) := by omega
      go_wp2_with fail
      go_ret2
      refine ⟨_, rfl, ?_, HBW.out _ HB.out⟩
      have h := HO.out.own
      rw [e, ← HN.out] at h
      exact World.ownsRow.mono h (by rw [← HEE.out]; exact HS1.out.bel.size)

/-- A proof's lists, as the cells of a row. -/
def lsV (p : PQ) (m : PM) (k : Nat) : List Value := (List.range k).map fun t => Value.slice (lsA p m t) (lsN p t) (lsC p m t)
def rdV (p : PQ) (m : PM) (j : Nat) : List Value := (List.range (p.rn j)).map fun i => Value.slice (m.A j i) (p.rl j i) (m.C j i)
theorem lsV_len (p : PQ) (m : PM) (k : Nat) : (lsV p m k).length = k := by simp [lsV]
theorem lsV_at (p : PQ) (m : PM) {k t : Nat} (h : t < k) : (lsV p m k)[t]? = some (Value.slice (lsA p m t) (lsN p t) (lsC p m t)) := by simp [lsV, h]
theorem lsV_rounds (p : PQ) (m : PM) (j : Nat) : lsV p m (posF p.rn j) ++ rdV p m j = lsV p m (posF p.rn j + p.rn j) := by
  unfold lsV rdV
  rw [List.range_add, List.map_append, List.map_map]
  congr 1
  refine List.map_congr_left fun i hi => ?_
  obtain ⟨h1, h2, h3, h4⟩ := ls_round p m (List.mem_range.1 hi)
  show _ = Value.slice _ _ _
  rw [h1, h3, h4]
theorem lsV_line (p : PQ) (m : PM) (j : Nat) : lsV p m (posF p.rn j + p.rn j) ++ [.slice (m.la j) (p.ln j) (m.lc j)] = lsV p m (posF p.rn (j + 1)) := by
  obtain ⟨h1, h2, h3, h4⟩ := ls_line p m j
  unfold lsV
  rw [posF, List.range_succ, List.map_append, List.map_cons, List.map_nil, h1, h3, h4]
theorem slcs_oneC {l : List Value} (h : ∀ u ∈ l, ∃ a n c, u = Value.slice a n c) : ∀ u ∈ l, u.oneCell' = true := fun u hu => by
  obtain ⟨a, n, c, rfl⟩ := h u hu
  rfl
theorem rdV_one (p : PQ) (m : PM) (j : Nat) : ∀ u ∈ rdV p m j, u.oneCell' = true := slcs_oneC fun u hu => by
  obtain ⟨i, _, rfl⟩ := List.mem_map.1 hu
  exact ⟨_, _, _, rfl⟩
theorem pos_few {p : PQ} {n : Nat} (h8 : ∀ j, j < n → p.rn j ≤ 8) (j : Nat) (hj : j ≤ n) : posF p.rn j ≤ 9 * j := by
  induction j with
  | zero => exact Nat.le_refl _
  | succ j ih => rw [posF]; have := ih (by omega); have := h8 j (by omega); omega
theorem snewsF (w : World) (a : Option Addr) (n c : Nat) (t : TypeId) : ∀ j u, [Value.slice a n c][j]? = some u → (w.alloc (.cells #[.slice a n c] t)).cell? ((⟨w.heap.size, 0, none⟩ : Addr).add j) = some u := by
  intro j u hj
  match j, hj with
  | 0, hj => simp at hj; subst hj; simp [Addr.add]
/-- The list lies where the proof told it. -/
theorem ls_prow {w : World} {ao : Option Addr} {p : PQ} {m : PM} (h : PfRow w ao p m) {t : Nat} (ht : t < allL p) : PRow w (lsA p m t) (lsN p t) (lsF p t) := by
  obtain ⟨j, r, hj, hr, rfl⟩ := wh_find _ _ ht
  obtain ⟨b, off, _, hall⟩ := h (by omega)
  obtain ⟨_, _, h3, h4⟩ := hall j hj
  by_cases hl : r < p.rn j
  · obtain ⟨e1, e2, e3, _⟩ := ls_round p m hl
    rw [e1, e2, e3]
    obtain ⟨b', off', _, hr'⟩ := h3 (by omega)
    exact (hr' r hl).2
  · obtain rfl : r = p.rn j := by omega
    obtain ⟨e1, e2, e3, _⟩ := ls_line p m j
    rw [e1, e2, e3]
    exact h4
theorem ls_nums {p : PQ} (h : p.nums) {t : Nat} (ht : t < allL p) : Nums (lsF p t) := by
  have m0 : PM := ⟨fun _ => none, fun _ => none, fun _ => 0, fun _ => 0, fun _ _ => none, fun _ _ => 0⟩
  obtain ⟨j, r, hj, hr, rfl⟩ := wh_find _ _ ht
  by_cases hl : r < p.rn j
  · rw [(ls_round p m0 hl).2.1]; exact (h j hj).1 r hl
  · obtain rfl : r = p.rn j := by omega
    rw [(ls_line p m0 j).2.1]; exact (h j hj).2
theorem ls_fresh {p : PQ} {m : PM} {B : Nat} (h : m.fresh p B) {t : Nat} (ht : t < allL p) : ∃ q, lsA p m t = some ⟨q, 0, none⟩ ∧ B ≤ q := by
  obtain ⟨j, r, hj, hr, rfl⟩ := wh_find _ _ ht
  obtain ⟨_, h2, h3⟩ := h j hj
  by_cases hl : r < p.rn j
  · rw [(ls_round p m hl).2.2.1]; exact h3 r hl
  · obtain rfl : r = p.rn j := by omega
    rw [(ls_line p m j).2.2.1]; exact h2

/-- What inOrder tells. -/
def inOut (p : PQ) (m : PM) (w : World) (e : Ending) (w' : World) : Prop := ∃ q cl, e = .returned (.slice (some ⟨q, 0, none⟩) (allL p) cl) ∧ w.heap.size ≤ q ∧ (∀ t, t < allL p → w'.cell? ⟨q, t, none⟩ = some (.slice (lsA p m t) (lsN p t) (lsC p m t))) ∧ Below w.heap.size w w'
set_option maxHeartbeats 8000000 in
set_option maxRecDepth 100000 in
theorem inOrder_any (ap : Option Addr) (np cp : Nat) (p : PQ) (m : PM) (w : World) (hp : p.n = np) (h1 : 1 ≤ np) (h4 : np ≤ 4) (h8 : ∀ j, j < np → p.rn j ≤ 8) (hr : PfRow w ap p m) :
    Calls Tryz.prog 97 #[.agg #[.slice ap np cp]] w fun e w' => inOut p m w e w' := by
  obtain ⟨i1, hi, hz0, hz1, hz2⟩ := info_parts Tryz.infoL
  have HI := hid (And.intro hi (And.intro hz0 (And.intro hz1 hz2)))
  have hal := (Below.refl w.heap.size w).alloc (Nat.le_refl _) (.cells #[.slice ap np cp] 63)
  have HR := hid hr
  have HP := hid hp
  have H8 := hid h8
  have hpc : (w.alloc (.cells #[.slice ap np cp] 63)).cell? ⟨w.heap.size, 0, none⟩ = some (.slice ap np cp) := by rw [World.cell?_alloc_new]; rfl
  obtain ⟨E, hE⟩ : ∃ E, w.heap.size = E := ⟨_, rfl⟩
  have HEE := hid hE
  have HB0 : Hid (Below E w (w.alloc (.cells #[.slice ap np cp] 63))) := hid (by rw [← hE]; exact hal)
  have HO0 : Hid ((w.alloc (.cells #[.slice ap np cp] 63)).ownsRow E 22 1 (.slice none 0 0) (posF p.rn 0) (lsV p m (posF p.rn 0))) := hid (World.ownsRow_nil _ _ _ _)
  clear hi hz0 hz1 hz2 hr hp h8 hal hE
  go_enter Tryz.func97, Tryz.ntmps97
  go_wp2_with fail
  clear hpc
  generalize w.alloc (.cells #[.slice ap np cp] 63) = W0 at HB0 HO0 ⊢
  go_loopg [9, 3] np (fun q i s wr => ∃ (j : Nat) (v : Value), j ≤ np ∧ q = np - j ∧ i = .int .i64 (j : Int) ∧ s = v ∧ Hid (wr.ownsRow E 22 1 v (posF p.rn j) (lsV p m (posF p.rn j))) ∧ Hid (Below E w wr))
  case atStart => exact ⟨0, _, by omega, rfl, rfl, rfl, HO0, HB0⟩
  case round =>
    clear HO0 HB0
    obtain ⟨j, v, hj, rfl, rfl, hv, HO, HB⟩ := hrel
    obtain rfl := hv.symm
    have hs : E ≤ wr.heap.size := by have h1 := HB.out.size; have h2 := HEE.out; omega
    have HBW : Hid (∀ W, Below E w W → Below w.heap.size w W) := hid (fun W h => by rw [HEE.out]; exact h)
    by_cases hjl : j < np
    · obtain ⟨pb, po, rfl, hcl⟩ := HR.out.kept (HBW.out _ HB.out) (by have := HP.out; omega)
      obtain ⟨y0, y1, y2, _⟩ := hcl j (by rw [HP.out]; exact hjl)
      rw [Nat.mul_comm 2 j] at y0 y1
      have HLR : Hid (∀ W, Below E w W → LRow W (m.ra j) (p.rn j) (m.A j) (p.rl j) (m.C j) (p.R j)) := hid (fun W h => by
        obtain ⟨pb', po', _, hcl⟩ := HR.out.kept (HBW.out _ h) (by have := HP.out; omega)
        exact (hcl j (by rw [HP.out]; exact hjl)).2.2.1)
      have HRO := hid (lsV_rounds p m j)
      have HLI := hid (lsV_line p m j)
      have HON := hid (rdV_one p m j)
      have HNW : Hid (∀ W b o, Below E w W → m.ra j = some ⟨b, o, none⟩ → ∀ i u, (rdV p m j)[i]? = some u → W.cell? ((⟨b, o, none⟩ : Addr).add i) = some u) := hid (fun W b o h e i u hu => by
        have hi : i < p.rn j := by
          by_cases hi : i < p.rn j
          · exact hi
          · rw [List.getElem?_eq_none (by simp [rdV]; omega)] at hu; cases hu
        obtain ⟨b', o', e2, hall⟩ := HLR.out W h (by omega)
        rw [e] at e2
        injection e2 with e2; injection e2 with e3 e4
        subst e3; subst e4
        rw [Addr.add_lit, (hall i hi).1]
        simp [rdV, hi] at hu
        rw [← hu])
      have HLE : Hid ((rdV p m j).length = p.rn j * 1) := hid (by simp [rdV])
      have HAD : Hid (0 < p.rn j → ∃ b o, m.ra j = some ⟨b, o, none⟩) := hid (fun h => by obtain ⟨b', o', e2, _⟩ := y2 h; exact ⟨b', o', e2⟩)
      obtain ⟨P0, hP0⟩ : ∃ x, posF p.rn j = x := ⟨_, rfl⟩
      have hP9 : P0 ≤ 36 := by rw [← hP0]; have := pos_few (p := p) H8.out j hj; omega
      obtain ⟨rn, hrn⟩ : ∃ x, p.rn j = x := ⟨_, rfl⟩
      have hr8 : rn ≤ 8 := by rw [← hrn]; exact H8.out j hjl
      obtain ⟨ra, hra⟩ : ∃ x, m.ra j = x := ⟨_, rfl⟩
      obtain ⟨rc, hrc⟩ : ∃ x, m.rc j = x := ⟨_, rfl⟩
      obtain ⟨la, hla⟩ : ∃ x, m.la j = x := ⟨_, rfl⟩
      obtain ⟨ln, hln⟩ : ∃ x, p.ln j = x := ⟨_, rfl⟩
      obtain ⟨lc, hlc⟩ : ∃ x, m.lc j = x := ⟨_, rfl⟩
      have HP1 : Hid (posF p.rn (j + 1) = P0 + rn + 1) := hid (by rw [posF, hP0, hrn])
      rw [hra, hrn, hrc] at y0
      rw [hla, hln, hlc] at y1
      rw [hP0] at HO HRO HLI
      rw [hrn] at HRO HLI HLE HAD
      rw [hra] at HNW HAD
      rw [hla, hln, hlc] at HLI
      clear hcl y2 hP0 hrn hra hrc hla hln hlc HLR
      have j0 : (0 : Int) ≤ (j : Int) := by omega
      have j1 : (j : Int) < (np : Int) := by omega
      have hal := (Below.refl wr.heap.size wr).alloc (Nat.le_refl _) (.cells #[.slice ra rn rc, .slice la ln lc] 67)
      have HB3 := hid (HB.out.trans (hal.mono hs))
      have HO3 := hid (World.ownsRow.alloc HO.out (.cells #[.slice ra rn rc, .slice la ln lc] 67))
      have HX3 := hid (Box2.new wr (.slice ra rn rc) (.slice la ln lc) 67)
      have HNE : Hid (some wr.heap.size ≠ v.ownBlock) := hid (fun e => by have := (World.ownsRow.lt HO.out _ e.symm).2; omega)
      have hs3 : E ≤ (wr.alloc (.cells #[.slice ra rn rc, .slice la ln lc] 67)).heap.size := by simp; omega
      clear hal
      go_upto_region 5 with fail
      clear y0 y1 j0 j1
      obtain ⟨LB, hLB⟩ : ∃ x, wr.heap.size = x := ⟨_, rfl⟩
      rw [hLB] at HX3 HNE
      rw [hLB]
      clear hLB hs HO HB
      generalize wr.alloc (.cells #[.slice ra rn rc, .slice la ln lc] 67) = W3 at HB3 HO3 HX3 hs3 ⊢
      obtain ⟨l0, l1, ll⟩ := HX3.out
      go_cut [3] (fun a3 wx => ∃ v2, a3 = v2 ∧ Hid (wx.ownsRow E 22 1 v2 (P0 + rn) (lsV p m (P0 + rn))) ∧ Hid (Below E w wx) ∧ wx.cell? ⟨LB, 1, none⟩ = some (.slice la ln lc) ∧ LB < wx.heap.size ∧ Hid (some LB ≠ v2.ownBlock))
      case first =>
        by_cases h0 : rn = 0
        · subst h0
          go_wp2_with (at_builtin; refine wpList_append_empty _ rfl _ _ 36 rfl E 22 i1 1 Tryz.underlying36 HI.out.1 v P0 (lsV p m P0) rfl HO3.out ra rc rfl ?_)
          go_meet
          exact ⟨v, rfl, hid HO3.out, HB3, l1, ll, HNE⟩
        · obtain ⟨rb, ro, rfl⟩ := HAD.out (by omega)
          have r1 : 0 < rn := by omega
          go_wp2_with (at_builtin; refine wpList_append_lies _ rfl _ _ 36 rfl E 22 i1 (.slice none 0 0) 1 24 Tryz.underlying36 HI.out.1 HI.out.2.1 HI.out.2.2.1 HI.out.2.2.2 rfl (by decide) v P0 (lsV p m P0) rfl HO3.out ⟨rb, ro, none⟩ rn rc (rdV p m j) rfl HLE.out (HNW.out W3 rb ro HB3.out rfl) HON.out (by omega) (by unfold maxLen; omega) (by omega) (by omega) W3.heap.size rfl ?_)
          intro g6 c6 w6 hown6 hgrow6 hat6 hlt6
          have HO6 : Hid (w6.ownsRow E 22 1 (.slice (some ⟨g6, 0, none⟩) (P0 + rn) c6) (P0 + rn) (lsV p m (P0 + rn))) := hid (by rw [HRO.out] at hown6; exact hown6)
          have HB6 : Hid (Below E w w6) := hid (HB3.out.grown hgrow6 hs3 fun k e => (World.ownsRow.lt HO3.out k e).1)
          have k1 : w6.cell? ⟨LB, 1, none⟩ = some (.slice la ln lc) := hgrow6.cell l1 HNE.out
          have HN6 : Hid (some LB ≠ (Value.slice (some ⟨g6, 0, none⟩) (P0 + rn) c6).ownBlock) := hid (fun e => by
            have e2 : LB = g6 := Option.some.inj e
            rcases hat6 with e3 | e3
            · exact HNE.out (by rw [e2, e3])
            · omega)
          have k2 : LB < w6.heap.size := Nat.lt_of_lt_of_le ll hgrow6.size
          clear hown6 hgrow6 hat6 hlt6
          go_wp2_with fail
          go_meet
          exact ⟨_, rfl, HO6, HB6, k1, k2, HN6⟩
      case rest =>
        clear l0 l1 ll HX3 HO3 HB3 HNE hs3
        obtain ⟨v2, hv2, HO4, HB4, l1, ll, HNE⟩ := hcut
        obtain rfl := hv2.symm
        have hs4 : E ≤ wc.heap.size := by have h1 := HB4.out.size; have h2 := HEE.out; omega
        go_wp2_with (at_builtin; refine wpList_append_lies _ rfl _ _ 36 rfl E 22 i1 (.slice none 0 0) 1 24 Tryz.underlying36 HI.out.1 HI.out.2.1 HI.out.2.2.1 HI.out.2.2.2 rfl (by decide) v2 (P0 + rn) (lsV p m (P0 + rn)) rfl (World.ownsRow.alloc HO4.out _) ⟨wc.heap.size, 0, none⟩ 1 1 [.slice la ln lc] rfl rfl (snewsF wc la ln lc _) (slcs_oneC fun u hu => ⟨la, ln, lc, by simpa using hu⟩) (by omega) (by unfold maxLen; omega) (by omega) (by simp; omega) (wc.heap.size + 1) (by simp) ?_)
        intro g6 c6 w6 hown6 hgrow6 hat6 hlt6
        have HO6 : Hid (w6.ownsRow E 22 1 (.slice (some ⟨g6, 0, none⟩) (P0 + rn + 1) c6) (posF p.rn (j + 1)) (lsV p m (posF p.rn (j + 1)))) := hid (by rw [← HLI.out, HP1.out]; exact hown6)
        have HB6 : Hid (Below E w w6) := hid ((HB4.out.alloc hs4 _).grown hgrow6 (by simp; omega) fun k e => (World.ownsRow.lt HO4.out k e).1)
        clear hown6 hgrow6 hat6 hlt6
        go_wp2_with fail
        go_roundg (np - (j + 1))
        case measure => go_light; omega
        case rel => exact ⟨j + 1, _, by omega, rfl, by go_num, rfl, HO6, HB6⟩
    · have e : j = np := by omega
      subst e
      have j1 : ¬ ((j : Int) < (j : Int)) := by omega
      have ho := HO.out
      rw [show posF p.rn j = allL p from by unfold allL; rw [HP.out]] at ho
      have hpos : 0 < allL p := by
        have := posF_mono p.rn (i := 0) (j := p.n) (by have := HP.out; omega)
        unfold allL
        omega
      obtain ⟨q, cl, hv2, hq, _⟩ := ho.form hpos
      subst hv2
      have HO7 := hid ho
      have HQ := hid hq
      clear ho hq
      go_wp2_with fail
      go_ret
      refine ⟨q, cl, rfl, by rw [HEE.out]; exact HQ.out, fun t ht => ?_, HBW.out _ HB.out⟩
      have h := HO7.out.cellAt t (by omega)
      rw [h, lsV_at p m ht]

end Go.Proofs.YtbchbmelofojkaaGreatDoor

/-
  Contracts of package fiat's ask and Verify.
-/
namespace Go.Proofs.YtbchbmelofojkaaGreatDoor
open Go.RowKit
set_option linter.unusedVariables false
attribute [local go_sem ↓] Go.wp_at_zero Go.wp_at_succ

/-- What the sponge is when it has taken what is claimed; and when it has given the highest layer's point. -/
def askG (c : CQ) (ni no : Nat) (fi fo : Nat → Int) : Nat → K := tkK (tkK (tkK (mixed (newK 1)) (cwordsQ c).length (rowOf (cwordsQ c))) ni fi) no fo
def ask1 (c : CQ) (ni no : Nat) (fi fo : Nat → Int) : Asked := ask0 (askG c ni no fi fo) ((partsQ c).lg 0)
def askOut (c : CQ) (ni no : Nat) (fi fo : Nat → Int) (w : World) (e : Ending) (w' : World) : Prop := ∃ base X S v, e = .returned (.pointer (some ⟨X, 0, none⟩)) ∧ w.heap.size ≤ base ∧ AskS w' base X S (ask1 c ni no fi fo).g (ask1 c ni no fi fo).D ((partsQ c).lg 0) v ∧ Below w.heap.size w w'
theorem AskS.start {w : World} {base S : Nat} {g : Nat → K} (D : Nat → Int) (hr : Row w S 0 3 (numsK g)) (hf : Free w S 0 3) (hS : base ≤ S) (t : TypeId) : AskS (w.alloc (.cells #[.pointer (some ⟨S, 0, none⟩), .slice none 0 0] t)) base w.heap.size S g D 0 (.slice none 0 0) := by
  have hlt := hr.lt (by omega)
  have hal := (Below.refl w.heap.size w).alloc (Nat.le_refl _) (.cells #[.pointer (some ⟨S, 0, none⟩), .slice none 0 0] t)
  exact ⟨by rw [World.cell?_alloc_new]; rfl, by rw [World.cell?_alloc_new]; rfl, by rw [World.frozen?_alloc_new], Own.nil _ _ _, hr.kept hal hlt, hf.kept hal hlt, by omega, by omega, hS, fun e => (by cases e), fun e => (by cases e)⟩
theorem prow_ne {w : World} {ao : Option Addr} {n : Nat} {f : Nat → Int} (h : PRow w ao n f) {S : Nat} (hS : w.heap.size ≤ S) : 0 < n → ∀ c o, ao = some ⟨c, o, none⟩ → c ≠ S := fun hn c o e => by
  obtain ⟨b, off, e2, hr⟩ := h hn
  rw [e] at e2
  injection e2 with e2; injection e2 with e3 e4
  have := hr.lt hn
  omega

set_option maxHeartbeats 8000000 in
set_option maxRecDepth 100000 in
theorem ask_any (c : CQ) (g : Int) (b off n cap : Nat) (A : Nat → Option Addr) (C : Nat → Nat) (ai ao : Option Addr) (ni ci no co : Nat) (fi fo : Nat → Int) (w : World) (hg : c.log = g) (hn : c.layers.length = n) (hr : CRow w (some ⟨b, off, none⟩) c.layers A C) (hc : c.right) (hi : PRow w ai ni fi) (vi : Nums fi) (ho : PRow w ao no fo) (vo : Nums fo) :
    Calls Tryz.prog 94 #[.agg #[.int .i64 g, .slice (some ⟨b, off, none⟩) n cap], .slice ai ni ci, .slice ao no co] w fun e w' => askOut c ni no fi fo w e w' := by
  have n4 : n ≤ 4 := by have := hc.few; omega
  have n1 : 1 ≤ n := by have := List.length_pos_iff.2 hc.some; omega
  obtain ⟨last, rfl⟩ : ∃ m, n = m + 1 := ⟨n - 1, by omega⟩
  obtain ⟨l0, hl0, hz0, _, _, _⟩ := parts_layer hc (j := 0) (by omega)
  rw [hn, show last + 1 - 1 - 0 = last from by omega] at hl0
  obtain ⟨lk, hlk⟩ : ∃ x, (partsQ c).lg 0 = x := ⟨_, rfl⟩
  have lk4 : lk ≤ 4 := by rw [← hlk]; exact parts_lg hc 0
  have hlog0 : l0.log = (lk : Int) := by rw [← hlk, hz0]; have := (hc.layer last l0 hl0).1; omega
  have HLK := hid hlk
  have HS0 := hid (StW.start w g (.slice (some ⟨b, off, none⟩) (last + 1) cap) 25)
  have HWO := hid (fun W (h : Below w.heap.size w W) => words_ok c g b off (last + 1) cap A C W hg hn (hr.kept h) hc)
  have HX0 : Hid (∀ W, Below w.heap.size w W → W.cell? ⟨b, off + last * 2, none⟩ = some (.int .i64 (lk : Int))) := hid (fun W h => by
    obtain ⟨b', off', eb, hcc⟩ := hr.kept h hc.some
    cases eb
    have := (hcc last l0 hl0).1
    rw [Nat.mul_comm 2 last, hlog0] at this
    exact this)
  have HI := hid (And.intro hi vi)
  have HO := hid (And.intro ho vo)
  have HVW := hid (words_nums hc)
  obtain ⟨G1, hG1⟩ : ∃ x, tkK (mixed (newK 1)) (cwordsQ c).length (rowOf (cwordsQ c)) = x := ⟨_, rfl⟩
  obtain ⟨G2, hG2⟩ : ∃ x, tkK G1 ni fi = x := ⟨_, rfl⟩
  obtain ⟨G3, hG3⟩ : ∃ x, tkK G2 no fo = x := ⟨_, rfl⟩
  have HGS := hid (And.intro hG1 (And.intro hG2 hG3))
  have hask : askG c ni no fi fo = G3 := by unfold askG; rw [hG1, hG2, hG3]
  have HASK := hid hask
  clear hr hc hg hn hi vi ho vo hG1 hG2 hG3 hask hl0 hz0 hlog0 hlk
  go_enter Tryz.func94, Tryz.ntmps94
  go_wp2_with fail
  obtain ⟨X0, hX0⟩ : ∃ X, w.heap.size = X := ⟨_, rfl⟩
  rw [hX0] at HS0
  rw [hX0]
  have HX0E := hid hX0
  clear hX0
  generalize w.alloc (.cells #[.int .i64 g, .slice (some ⟨b, off, none⟩) (last + 1) cap] 25) = W0 at HS0 ⊢
  refine (HWO.out _ HS0.out.bel).mono ?_
  rintro e w1 ⟨v, rfl, hown, hb⟩
  obtain ⟨aw, cw, rfl, hpw, _⟩ := hown.is
  have HS1 := hid (HS0.out.next hb)
  have HPW := hid hpw
  obtain ⟨nw, hnw⟩ : ∃ x, (cwordsQ c).length = x := ⟨_, rfl⟩
  rw [hnw] at HPW HGS
  rw [hnw]
  clear hb HS0 hown hpw HWO hnw
  go_wp2_with fail
  refine (new_any 1 w1 (by omega) (by omega)).mono ?_
  rintro e w2 ⟨rfl, hb, hlt, hrw, hfw⟩
  obtain ⟨S, hS⟩ : ∃ x, w1.heap.size = x := ⟨_, rfl⟩
  have HSE := hid hS
  have HA3 := hid (AskS.start (fun i => ofK (mixN G3 i 1)) hrw hfw (Nat.le_refl _) 148)
  rw [hS] at HA3
  rw [hS]
  have HB3 : Hid (Below S w1 (w2.alloc (.cells #[.pointer (some ⟨S, 0, none⟩), .slice none 0 0] 148))) := hid (by rw [← hS]; exact hb.alloc hb.size _)
  have HK : Hid (∀ W, Below S w1 W → StW w W X0 g (.slice (some ⟨b, off, none⟩) (last + 1) cap) ∧ PRow W aw nw (rowOf (cwordsQ c)) ∧ PRow W ai ni fi ∧ PRow W ao no fo) := hid (fun W h => by
    rw [← HSE.out] at h
    have hs := HS1.out.next h
    exact ⟨hs, HPW.out.kept h, HI.out.1.kept hs.bel, HO.out.1.kept hs.bel⟩)
  have HNE : Hid (w.heap.size ≤ S ∧ w1.heap.size ≤ S) := hid (by have := HS1.out.bel.size; omega)
  clear hb hlt hrw hfw hS
  have zc := HA3.out.cp
  go_wp2_with fail
  obtain ⟨X, hX⟩ : ∃ X, w2.heap.size = X := ⟨_, rfl⟩
  rw [hX] at HA3
  rw [hX]
  clear hX zc
  generalize w2.alloc (.cells #[.pointer (some ⟨S, 0, none⟩), .slice none 0 0] 148) = W3 at HA3 HB3 ⊢
  refine (take_all S _ aw nw cw (rowOf (cwordsQ c)) W3 HA3.out.sr HA3.out.sf (HK.out _ HB3.out).2.1 HVW.out (prow_ne HPW.out HNE.out.2)).mono ?_
  rintro e w4 ⟨rfl, ht, hr4, hf4⟩
  have HA4 := hid (HA3.out.turn ht hr4 hf4)
  have HB4 := hid (HB3.out.trans (ht.below (Nat.le_refl _) HA3.out.le))
  rw [HGS.out.1] at HA4
  clear ht hr4 hf4 HA3 HB3
  have zc := HA4.out.cp
  go_wp2_with fail
  refine (take_all S _ ai ni ci fi w4 HA4.out.sr HA4.out.sf (HK.out _ HB4.out).2.2.1 HI.out.2 (prow_ne HI.out.1 HNE.out.1)).mono ?_
  rintro e w5 ⟨rfl, ht, hr4, hf4⟩
  have HA5 := hid (HA4.out.turn ht hr4 hf4)
  have HB5 := hid (HB4.out.trans (ht.below (Nat.le_refl _) HA4.out.le))
  rw [HGS.out.2.1] at HA5
  clear ht hr4 hf4 HA4 HB4 zc
  have zc := HA5.out.cp
  go_wp2_with fail
  refine (take_all S _ ao no co fo w5 HA5.out.sr HA5.out.sf (HK.out _ HB5.out).2.2.2 HO.out.2 (prow_ne HO.out.1 HNE.out.1)).mono ?_
  rintro e w6 ⟨rfl, ht, hr4, hf4⟩
  have HA6 := hid (HA5.out.turn ht hr4 hf4)
  have HB6 := hid (HB5.out.trans (ht.below (Nat.le_refl _) HA5.out.le))
  rw [HGS.out.2.2] at HA6
  clear ht hr4 hf4 HA5 HB5 zc
  obtain ⟨z0, z1, zl⟩ := (HK.out _ HB6.out).1.box
  have zx := HX0.out _ (HK.out _ HB6.out).1.bel
  have s0 : (0 : Int) ≤ (last : Int) := by omega
  have s1 : (last : Int) < (last : Int) + 1 := by omega
  go_wp2_with fail
  clear z0 z1 zl zx s0 s1
  go_loopg [45] lk (fun q i wr => ∃ (k : Nat) (v : Value), k ≤ lk ∧ q = lk - k ∧ i = .int .i64 (k : Int) ∧ Hid (AskS wr S X S (mixN G3 k) (fun i => ofK (mixN G3 i 1)) k v) ∧ Hid (Below S w1 wr))
  case atStart => exact ⟨0, _, by omega, rfl, rfl, HA6, HB6⟩
  case round =>
    clear HA6 HB6
    obtain ⟨k, v, hk, rfl, rfl, HA, HB⟩ := hrel
    by_cases hkl : k < lk
    · have k1 : (k : Int) < (lk : Int) := by omega
      go_wp2_with fail
      refine (draw_any S X S _ _ k v wr HA.out (by omega)).mono ?_
      rintro e w7 ⟨rfl, v', ha, hb, _⟩
      have HA7 : Hid (AskS w7 S X S (mixN G3 (k + 1)) (fun i => ofK (mixN G3 i 1)) (k + 1) v') := hid (ha.congr fun j hj => by
        unfold catF
        by_cases e : j < k
        · rw [if_pos e]
        · rw [if_neg e, show j = k from by omega])
      have HB7 := hid (HB.out.trans (HA.out.below hb))
      clear ha hb
      go_wp2_with fail
      go_roundg (lk - (k + 1))
      case measure => go_light; omega
      case rel => exact ⟨k + 1, v', by omega, rfl, by go_num, HA7, HB7⟩
    · have e : k = lk := by omega
      subst e
      have k1 : ¬ ((k : Int) < (k : Int)) := by omega
      go_wp2_with fail
      go_ret
      exact ⟨S, X, S, v, rfl, HNE.out.1, by unfold ask1 ask0; rw [HASK.out, HLK.out]; exact HA.out, (HK.out _ HB.out).1.bel⟩

theorem ask1_nums (c : CQ) (ni no : Nat) (fi fo : Nat → Int) : Nums (ask1 c ni no fi fo).D := fun i => ofK_u64 _
theorem hear_nums {a : Asked} (h : Nums a.D) (z : Nat) (p : PQ) (t : Nat) : Nums (hearP a z p t).D := by
  induction t with
  | zero => exact h
  | succ t ih =>
    intro i
    rw [hearP, Asked.hear]
    dsimp only
    unfold catF
    split
    · exact ih i
    · exact ofK_u64 _
set_option maxHeartbeats 2000000 in
set_option maxRecDepth 100000 in
theorem fvf_form (g : Int) (ao : Option Addr) (n cap : Nat) (ap : Option Addr) (np cp : Nat) (ai ao2 : Option Addr) (ni ci no co : Nat) (x : Int) (w : World) (hx0 : x ≠ 0)
    (hf : ∀ W, Below w.heap.size w W → Calls Tryz.prog 70 #[.agg #[.int .i64 g, .slice ao n cap], .agg #[.slice ap np cp]] W fun e w' => e = .returned (.int .i64 x) ∧ Below W.heap.size W w') :
    Calls Tryz.prog 64 #[.agg #[.int .i64 g, .slice ao n cap], .slice ai ni ci, .slice ao2 no co, .agg #[.slice ap np cp]] w fun e w' => e = .returned (.tuple #[.bool false, .int .i64 x]) ∧ Below w.heap.size w w' := by
  have HS0 := hid (StQ.start w g (.slice ao n cap) (.slice ap np cp) 25 63)
  have HF := hid hf
  have e1 : (x != 0) = true := by simp [hx0]
  clear hf hx0
  obtain ⟨z0, z1, zl⟩ := HS0.out.box
  have zp := HS0.out.pc
  go_enter Tryz.func64, Tryz.ntmps64
  go_wp2_with fail
  obtain ⟨X, hX⟩ : ∃ X, w.heap.size = X := ⟨_, rfl⟩
  rw [hX] at HS0
  rw [hX]
  clear hX z0 z1 zl zp
  generalize (w.alloc (.cells #[.int .i64 g, .slice ao n cap] 25)).alloc (.cells #[.slice ap np cp] 63) = W0 at HS0 ⊢
  refine (HF.out _ HS0.out.bel).mono ?_
  rintro e w1 ⟨rfl, hb⟩
  have HS1 := hid (HS0.out.next hb)
  clear hb HS0
  go_wp2_with fail
  go_ret2
  exact ⟨rfl, HS1.out.bel⟩

/-- The draws of a proof. -/
def fiatD (c : CQ) (ni no : Nat) (fi fo : Nat → Int) (p : PQ) : Nat → Int := (hearP (ask1 c ni no fi fo) ((partsQ c).lg 0) p (allL p)).D
theorem fiatD_nums (c : CQ) (ni no : Nat) (fi fo : Nat → Int) (p : PQ) : Nums (fiatD c ni no fi fo p) := hear_nums (ask1_nums c ni no fi fo) _ _ _
theorem shaped_few {c : CQ} {p : PQ} (hc : c.right) (h : shapedQ c p) : (∀ j, j < c.layers.length → p.rn j ≤ 8) ∧ needQ c = (partsQ c).lg 0 + allL p := by
  have hrn : ∀ j, j < c.layers.length → p.rn j = 2 * (partsQ c).lg (j + 1) := fun j hj => (h.2 j (by rw [h.1]; exact hj)).1
  refine ⟨fun j hj => by rw [hrn j hj]; have := parts_lg hc (j + 1); omega, ?_⟩
  have hpos : ∀ j, j ≤ c.layers.length → (partsQ c).at j = (partsQ c).lg 0 + posF p.rn j := by
    intro j
    induction j with
    | zero => exact fun _ => rfl
    | succ j ih =>
      intro hj
      show (partsQ c).at j + 2 * (partsQ c).lg (j + 1) + 1 = (partsQ c).lg 0 + (posF p.rn j + p.rn j + 1)
      rw [ih (by omega), hrn j (by omega)]; omega
  have := hpos c.layers.length (Nat.le_refl _)
  unfold needQ allL
  rw [this, h.1]
abbrev FourV (X XA : Nat) (u v p d : Value) (W : World) : Prop := W.cell? ⟨X, 0, none⟩ = some u ∧ W.cell? ⟨X, 1, none⟩ = some v ∧ W.cell? ⟨X + 1, 0, none⟩ = some p ∧ W.cell? ⟨XA, 1, none⟩ = some d
theorem FourV.kept {X XA : Nat} {u v p d : Value} {W W' : World} (h : FourV X XA u v p d W) (hb : Below W.heap.size W W') : FourV X XA u v p d W' := by
  have k : ∀ (a : Addr) (z : Value), W.cell? a = some z → W'.cell? a = some z := fun a z hz => (hb.cell (World.block_lt_of_cell? W _ hz)).trans hz
  exact ⟨k _ _ h.1, k _ _ h.2.1, k _ _ h.2.2.1, k _ _ h.2.2.2⟩

/-- What Verify tells. -/
def fvOut (R : Bool → Int → Prop) (w : World) (e : Ending) (w' : World) : Prop := ∃ r x, e = .returned (.tuple #[.bool r, .int .i64 x]) ∧ R r x ∧ Below w.heap.size w w'
set_option maxHeartbeats 8000000 in
set_option maxRecDepth 100000 in
theorem fvf_run (c : CQ) (g : Int) (b off n cap : Nat) (A : Nat → Option Addr) (C : Nat → Nat) (ai ao2 : Option Addr) (ni ci no co : Nat) (fi fo : Nat → Int) (ap : Option Addr) (np cp : Nat) (p : PQ) (m : PM) (w : World) (R : Bool → Int → Prop)
    (hg : c.log = g) (hn : c.layers.length = n) (hr : CRow w (some ⟨b, off, none⟩) c.layers A C) (hc : c.right) (hp : p.n = np) (hpr : PfRow w ap p m) (hpn : p.nums) (hs : shapedQ c p) (hi : PRow w ai ni fi) (vi : Nums fi) (ho : PRow w ao2 no fo) (vo : Nums fo)
    (HV : Hid (∀ (W : World) (bd cd : Nat), Below w.heap.size w W → Row W bd 0 (needQ c) (fiatD c ni no fi fo p) → needQ c ≤ cd → cd ≤ maxLen → Calls Tryz.prog 38 #[.agg #[.int .i64 g, .slice (some ⟨b, off, none⟩) n cap], .slice ai ni ci, .slice ao2 no co, .agg #[.slice ap np cp], .slice (some ⟨bd, 0, none⟩) (needQ c) cd] W fun e w' => ∃ r x, e = .returned (.tuple #[.bool r, .int .i64 x]) ∧ R r x ∧ Below W.heap.size W w')) :
    Calls Tryz.prog 64 #[.agg #[.int .i64 g, .slice (some ⟨b, off, none⟩) n cap], .slice ai ni ci, .slice ao2 no co, .agg #[.slice ap np cp]] w fun e w' => fvOut R w e w' := by
  have n4 : n ≤ 4 := by have := hc.few; omega
  have n1 : 1 ≤ n := by have := List.length_pos_iff.2 hc.some; omega
  have hnp : np = n := by rw [← hp, hs.1, hn]
  obtain ⟨h8, hneed⟩ := shaped_few hc hs
  rw [hn] at h8
  have hq40 := needQ_le hc
  obtain ⟨T, hT⟩ : ∃ x, allL p = x := ⟨_, rfl⟩
  obtain ⟨z, hz⟩ : ∃ x, (partsQ c).lg 0 = x := ⟨_, rfl⟩
  have hT1 : 1 ≤ T := by
    have := posF_mono p.rn (i := 0) (j := p.n) (by omega)
    rw [← hT]
    unfold allL
    omega
  rw [hT, hz] at hneed
  have HS0 := hid (StQ.start w g (.slice (some ⟨b, off, none⟩) n cap) (.slice ap np cp) 25 63)
  have HF := hid (form_is (cap := cap) (cp := cp) (x := 0) hg hn hr hc hp hpr (.inr (.inl ⟨hc, hs, rfl⟩)))
  have HAK := hid (fun W (h : Below w.heap.size w W) => ask_any c g b off n cap A C ai ao2 ni ci no co fi fo W hg hn (hr.kept h) hc (hi.kept h) vi (ho.kept h) vo)
  have HIO := hid (fun W (h : Below w.heap.size w W) => inOrder_any ap np cp p m W hp (by omega) (by omega) (fun j hj => h8 j (by omega)) (hpr.kept h))
  simp only [inOut] at HIO
  rw [hT] at HIO
  have HPL : Hid (∀ W, Below w.heap.size w W → ∀ t, t < T → PRow W (lsA p m t) (lsN p t) (lsF p t) ∧ ∀ S, w.heap.size ≤ S → 0 < lsN p t → ∀ c o, lsA p m t = some ⟨c, o, none⟩ → c ≠ S) := hid (fun W h t ht => by
    have hl := ls_prow hpr (t := t) (by rw [hT]; exact ht)
    exact ⟨hl.kept h, fun S hS => prow_ne hl hS⟩)
  have HPN : Hid (∀ t, t < T → Nums (lsF p t)) := hid (fun t ht => ls_nums hpn (by rw [hT]; exact ht))
  have HFD : Hid (fiatD c ni no fi fo p = (hearP (ask1 c ni no fi fo) z p T).D) := hid (by unfold fiatD; rw [hT, hz])
  have HZ := hid hz
  rw [hneed] at HV hq40
  obtain ⟨z0, z1, zl⟩ := HS0.out.box
  have zp := HS0.out.pc
  clear hg hn hr hc hp hpr hpn hs hi vi ho vo hnp h8 hneed hT hz n4
  go_enter Tryz.func64, Tryz.ntmps64
  go_wp2_with fail
  obtain ⟨X, hX⟩ : ∃ X, w.heap.size = X := ⟨_, rfl⟩
  rw [hX] at HS0
  rw [hX]
  have HXE := hid hX
  clear hX z0 z1 zl zp
  generalize (w.alloc (.cells #[.int .i64 g, .slice (some ⟨b, off, none⟩) n cap] 25)).alloc (.cells #[.slice ap np cp] 63) = W0 at HS0 ⊢
  refine (HF.out _ HS0.out.bel).mono ?_
  rintro e w1 ⟨rfl, hb⟩
  have HS1 := hid (HS0.out.next hb)
  clear hb HS0 HF
  obtain ⟨z0, z1, zl⟩ := HS1.out.box
  go_wp2_with fail
  refine (HAK.out _ HS1.out.bel).mono ?_
  rintro e w2 ⟨base, XA, S, v, rfl, hbase, ha, hb⟩
  have HS2 := hid (HS1.out.next hb)
  have HA2 := hid ha
  rw [HZ.out] at HA2
  have HB12 := hid hb
  have HBS := hid hbase
  clear ha hb hbase HAK z0 z1 zl
  have zp := HS2.out.pc
  go_wp2_with fail
  refine (HIO.out _ HS2.out.bel).mono ?_
  rintro e w3 ⟨q, cl, rfl, hq, hcell, hb⟩
  have HA3 := hid (HA2.out.kept hb)
  have HB13 := hid (HB12.out.trans (hb.mono HB12.out.size))
  have HQ : Hid (q ≠ XA ∧ q ≠ S ∧ v.ownBlock ≠ some q) := hid ⟨by have := HA2.out.ltX; omega, by have := HA2.out.ltS; omega, fun e => by have := (World.ownsRow.lt HA2.out.own q e).2; omega⟩
  have HCE := hid hcell
  clear hq hb hcell HA2 HB12 HS2 HIO zp
  go_wp2_with fail
  go_loopg [27] T (fun qq i wr => ∃ (t : Nat) (v' : Value), t ≤ T ∧ qq = T - t ∧ i = .int .i64 (t : Int) ∧ Hid (AskS wr base XA S (hearP (ask1 c ni no fi fo) z p t).g (hearP (ask1 c ni no fi fo) z p t).D (z + t) v') ∧ Hid (But3 XA S v.ownBlock w3 wr) ∧ Hid (∀ k, v'.ownBlock = some k → v.ownBlock = some k ∨ w3.heap.size ≤ k))
  case atStart => exact ⟨0, v, by omega, rfl, rfl, HA3, hid (But3.refl _ _ _ _), hid (fun k e => .inl e)⟩
  case round =>
    obtain ⟨t, v', ht, rfl, rfl, HA, HB, HK⟩ := hrel
    have HBW : Hid (Below w1.heap.size w1 wr) := hid (HB13.out.trans ((HA3.out.below HB.out).mono HBS.out))
    have HSR := hid (HS1.out.next HBW.out)
    by_cases htl : t < T
    · have t0 : (0 : Int) ≤ (t : Int) := by omega
      have t1 : (t : Int) < (T : Int) := by omega
      have cz := HB.out.cell (HCE.out t (by omega)) HQ.out.1 HQ.out.2.1 HQ.out.2.2
      obtain ⟨hpl, hne⟩ := HPL.out _ HSR.out.bel t htl
      have HHE := hid (hear_any base XA S _ _ (z + t) v' (lsA p m t) (lsN p t) (lsC p m t) (lsF p t) wr HA.out (by omega) hpl (HPN.out t htl) (hne S (by have h1 := HA.out.lS; have h2 := HBS.out; have h3 := HS1.out.bel.size; omega)))
      clear hpl hne
      go_wp2_with fail
      refine (HHE.out).mono ?_
      rintro e w5 ⟨rfl, v2, ha, hb, hk⟩
      have HA5 := hid ha
      have HB5 := hid (HB.out.trans hb (fun k e => HK.out k e))
      have HK5 : Hid (∀ k, v2.ownBlock = some k → v.ownBlock = some k ∨ w3.heap.size ≤ k) := hid (fun k e => by
        rcases hk k e with h | h
        · exact HK.out k h
        · exact .inr (Nat.le_trans HB.out.size h))
      clear ha hb hk cz HHE
      go_wp2_with fail
      go_roundg (T - (t + 1))
      case measure => go_light; omega
      case rel => exact ⟨t + 1, v2, by omega, rfl, by go_num, HA5, HB5, HK5⟩
    · have e : t = T := by omega
      subst e
      have t1 : ¬ ((t : Int) < (t : Int)) := by omega
      obtain ⟨bd, cd, hv', hcd, hcm⟩ : ∃ bd cd, v' = .slice (some ⟨bd, 0, none⟩) (z + t) cd ∧ z + t ≤ cd ∧ cd ≤ maxLen := by
        rcases HA.out.own.2 with ⟨_, h0⟩ | ⟨gg, cc, cur, hv, _, _, h1, h2, _⟩
        · omega
        · exact ⟨gg, cc, hv, h1, h2⟩
      subst hv'
      have HRW : Hid (Row wr bd 0 (z + t) (fiatD c ni no fi fo p)) := hid (by rw [HFD.out]; exact row_own HA.out.own)
      have HFV : Hid (FourV X XA (.int .i64 g) (.slice (some ⟨b, off, none⟩) n cap) (.slice ap np cp) (.slice (some ⟨bd, 0, none⟩) (z + t) cd) wr) := hid ⟨HSR.out.box.c0, HSR.out.box.c1, HSR.out.pc, HA.out.cv⟩
      have HBR := hid HSR.out.bel
      have nc := HFV.out
      have HVV : Hid (∀ W, Below wr.heap.size wr W → Calls Tryz.prog 38 #[.agg #[.int .i64 g, .slice (some ⟨b, off, none⟩) n cap], .slice ai ni ci, .slice ao2 no co, .agg #[.slice ap np cp], .slice (some ⟨bd, 0, none⟩) (z + t) cd] W fun e w' => ∃ r x, e = .returned (.tuple #[.bool r, .int .i64 x]) ∧ R r x ∧ Below W.heap.size W w') := hid (fun W h => HV.out W bd cd (HBR.out.trans (h.mono HBR.out.size)) (HRW.out.kept h (World.block_lt_of_cell? wr _ (HRW.out 0 (by omega)))) hcd hcm)
      clear HA HB HK HBW HSR HRW HV hcd hcm
      go_wp2_with fail
      go_region_held3 (FourV X XA (.int .i64 g) (.slice (some ⟨b, off, none⟩) n cap) (.slice ap np cp) (.slice (some ⟨bd, 0, none⟩) (z + t) cd)) (first | assumption | exact nca) (first
        | (go_at_call 38; refine (HVV.out _ (Below.refl _ wr).drew).mono ?_; rintro e wa ⟨r, x, rfl, hrx, hb⟩; have hba : Below wr.heap.size wr wa := (Below.refl _ wr).drew.trans hb; have nca := nc.kept hba; clear hb))
      have HRX := hid hrx
      have HBA : Hid (Below w.heap.size w wa) := hid (HBR.out.trans (hba.mono HBR.out.size))
      clear nc nca hba hrx HFV
      go_wp2_with fail
      go_ret2
      exact ⟨r, x, rfl, HRX.out, HBA.out⟩

end Go.Proofs.YtbchbmelofojkaaGreatDoor

/-
  Contracts of package fiat's Prove: of what has an error; of right circuits and inputs: the right proof is told list by list.
-/
namespace Go.Proofs.YtbchbmelofojkaaGreatDoor
open Go.RowKit
set_option linter.unusedVariables false
attribute [local go_sem ↓] Go.wp_at_zero Go.wp_at_succ

theorem results_tct {fn : Func} {a p u : Tmp} {ty : TypeId} (h : fn.results = #[.tmp a, .cell p ty, .tmp u]) (tmps : Array Value) (P : Program) (w : World) :
    (results fn tmps).run P w = ((asAddr (tmps.getD p undef)).run P w).andThen fun ad w₁ => ((loadVar ty ad).run P w₁).andThen fun v w₂ => .ok (.tuple #[tmps.getD a undef, v, tmps.getD u undef]) w₂ := by
  simp only [results, h]
  simp [Sem.run_bind, Result.andThen]
theorem results_prf3 {fn : Func} {a p u : Tmp} (h : fn.results = #[.tmp a, .cell p 63, .tmp u]) {tmps : Array Value} {w : World} {b : Nat} {x0 : Value} (hp : tmps.getD p undef = .pointer (some ⟨b, 0, none⟩)) (c0 : w.cell? ⟨b, 0, none⟩ = some x0) :
    (results fn tmps).run Tryz.prog w = .ok (.tuple #[tmps.getD a undef, .agg #[x0], tmps.getD u undef]) w := by
  rw [results_tct h, hp]
  simp [asAddr, Result.andThen, load_prf c0]

set_option maxHeartbeats 2000000 in
set_option maxRecDepth 100000 in
theorem fpv_run (g : Int) (ao : Option Addr) (n cap : Nat) (ai : Option Addr) (ni ci : Nat) (x : Int) (w : World) (hx0 : x ≠ 0)
    (HR : Hid (∀ W, Below w.heap.size w W → Calls Tryz.prog 24 #[.agg #[.int .i64 g, .slice ao n cap], .slice ai ni ci] W fun e w' => e = .returned (.tuple #[.slice none 0 0, .int .i64 x]) ∧ Below W.heap.size W w')) :
    Calls Tryz.prog 62 #[.agg #[.int .i64 g, .slice ao n cap], .slice ai ni ci] w fun e w' => e = .returned (.tuple #[.slice none 0 0, .agg #[.slice none 0 0], .int .i64 x]) ∧ Below w.heap.size w w' := by
  have HS0 := hid (StV.start w g (.slice ao n cap) 25 63)
  have e1 : (x != 0) = true := by simp [hx0]
  clear hx0
  go_enter Tryz.func62, Tryz.ntmps62
  go_wp2_with fail
  obtain ⟨X, hX⟩ : ∃ X, w.heap.size = X := ⟨_, rfl⟩
  rw [hX] at HS0
  rw [hX]
  have HX := hid hX
  clear hX
  generalize (w.alloc (.cells #[.int .i64 g, .slice ao n cap] 25)).alloc (.cells #[.slice none 0 0] 63) = W0 at HS0 ⊢
  refine (HR.out _ HS0.out.st.bel).mono ?_
  rintro e w1 ⟨rfl, hb⟩
  have HS1 := hid (HS0.out.next hb)
  clear hb HS0
  have pc := HS1.out.st.pc
  have fz := HS1.out.free
  go_wp2_with fail
  refine bodyPost_ret (results_prf3 rfl rfl (World.cell?_setCell_same _ _ _ pc)) rfl ?_
  exact ⟨rfl, by rw [HX.out]; have := HS1.out.st.bel; rw [HX.out] at this; exact this.setCell (by show X ≤ X + 1; omega) _⟩

/-- What Prove tells of right things. -/
def fiatA (c : CQ) (N M : Nat) (f : Nat → Int) : Asked := ask1 c N M f (valsQ c f c.layers.length)
def fiatP (c : CQ) (N M : Nat) (f : Nat → Int) : PQ := lastP (fiatA c N M f) c f (allL (rightP c f f))
def fproveOut (c : CQ) (f : Nat → Int) (n N M : Nat) (w : World) (e : Ending) (w' : World) : Prop := ∃ dk PB m, e = .returned (.tuple #[.slice (some ⟨dk, 0, none⟩) M M, .agg #[.slice (some ⟨PB, 0, none⟩) n n], .int .i64 0]) ∧ Row w' dk 0 M (valsQ c f n) ∧ PfRow w' (some ⟨PB, 0, none⟩) (fiatP c N M f) m ∧ w.heap.size ≤ PB ∧ m.fresh (fiatP c N M f) PB ∧ Below w.heap.size w w'
/-- The proof that is told in round t. -/
def roundP (a : Asked) (z : Nat) (c : CQ) (f : Nat → Int) (t : Nat) : PQ := rightP c f (filF (z + t) (tellP a z c f t).D)
theorem tell_nums {a : Asked} (h : Nums a.D) (z : Nat) (c : CQ) (f : Nat → Int) (t : Nat) : Nums (tellP a z c f t).D := by
  induction t with
  | zero => exact h
  | succ t ih =>
    intro i
    rw [tellP, Asked.hear]
    dsimp only
    unfold catF
    split
    · exact ih i
    · exact ofK_u64 _
/-- t lists have been told; the struct lies in XA, its sponge in S, the proof in Y. -/
structure FpS (w4 wr : World) (base XA S Y : Nat) (a : Asked) (z : Nat) (c : CQ) (f : Nat → Int) (n t : Nat) (v pv : Value) : Prop where
  ask : AskS wr base XA S (tellP a z c f t).g (tellP a z c f t).D (z + t) v
  bel : Below base w4 wr
  cy : wr.cell? ⟨Y, 0, none⟩ = some pv
  fy : wr.frozen? ⟨Y, 0, none⟩ = false
  ny : v.ownBlock ≠ some Y
  pf : t = 0 ∨ ∃ PB m, pv = .slice (some ⟨PB, 0, none⟩) n n ∧ PfRow wr (some ⟨PB, 0, none⟩) (roundP a z c f (t - 1)) m ∧ base ≤ PB ∧ m.fresh (roundP a z c f (t - 1)) PB
/-- A round of it: filled, proved, stored, listed, heard. -/
theorem FpS.step {w4 wr w7 w9 w10 : World} {base XA S Y : Nat} {a : Asked} {z : Nat} {c : CQ} {f : Nat → Int} {n t : Nat} {v pv v2 : Value} (h : FpS w4 wr base XA S Y a z c f n t v pv) (hYX : Y ≠ XA) (hYS : Y ≠ S) (hbY : base ≤ Y) {PB : Nat} {m : PM} (hb7 : Below wr.heap.size wr w7) (hpf : PfRow w7 (some ⟨PB, 0, none⟩) (roundP a z c f t) m) (hlow : wr.heap.size ≤ PB) (hfr : m.fresh (roundP a z c f t) PB)
    (hb9 : Below w7.heap.size (w7.setCell ⟨Y, 0, none⟩ (.slice (some ⟨PB, 0, none⟩) n n)) w9)
    (ha : AskS w10 base XA S (tellP a z c f (t + 1)).g (tellP a z c f (t + 1)).D (z + t + 1) v2) (hb : But3 XA S v.ownBlock w9 w10) (hk : ∀ k, v2.ownBlock = some k → v.ownBlock = some k ∨ w9.heap.size ≤ k) : FpS w4 w10 base XA S Y a z c f n (t + 1) v2 (.slice (some ⟨PB, 0, none⟩) n n) := by
  have ltY : Y < wr.heap.size := World.block_lt_of_cell? wr _ h.cy
  have ltX := h.ask.ltX
  have ltS := h.ask.ltS
  have hle := h.ask.le
  have s7 := hb7.size
  have e8 : (w7.setCell ⟨Y, 0, none⟩ (.slice (some ⟨PB, 0, none⟩) n n)).heap.size = w7.heap.size := World.size_setCell _ _ _
  have s9 := hb9.size
  rw [e8] at s9
  have c7 : w7.cell? ⟨Y, 0, none⟩ = some pv := (hb7.cell ltY).trans h.cy
  have f7 : w7.frozen? ⟨Y, 0, none⟩ = false := (hb7.frozen ltY).trans h.fy
  have c8 : (w7.setCell ⟨Y, 0, none⟩ (.slice (some ⟨PB, 0, none⟩) n n)).cell? ⟨Y, 0, none⟩ = some (.slice (some ⟨PB, 0, none⟩) n n) := World.cell?_setCell_same _ _ _ c7
  have far : ∀ k, k ≠ Y → (w7.setCell ⟨Y, 0, none⟩ (.slice (some ⟨PB, 0, none⟩) n n)).heap[k]? = w7.heap[k]? := fun k hk => Below.heap_setCell _ _ _ _ hk
  have ltY9 : Y < w9.heap.size := by omega
  have c9 : w9.cell? ⟨Y, 0, none⟩ = some (.slice (some ⟨PB, 0, none⟩) n n) := (hb9.cell (show Y < w7.heap.size by omega)).trans c8
  have f9 : w9.frozen? ⟨Y, 0, none⟩ = false := by
    rw [hb9.frozen (show Y < w7.heap.size by omega), World.frozen?_setCell]; exact f7
  have bv : ∀ k, v.ownBlock = some k → base ≤ k ∧ k < wr.heap.size := fun k e => World.ownsRow.lt h.ask.own k e
  have hY10 := hb.block Y ltY9 hYX hYS h.ny
  refine ⟨ha, ?_, (World.cell?_of_block (w := w9) hY10).trans c9, (World.frozen?_of_block (w := w9) hY10).trans f9, fun e => ?_, .inr ⟨PB, m, rfl, ?_, by omega, hfr⟩⟩
  · have b1 : Below base wr w7 := hb7.mono hle
    have b2 : Below base wr (w7.setCell ⟨Y, 0, none⟩ (.slice (some ⟨PB, 0, none⟩) n n)) := b1.setCell hbY _
    have b3 := b2.trans (hb9.mono (by omega))
    exact h.bel.trans (b3.trans (hb.below h.ask.lX h.ask.lS (fun k e => (bv k e).1) (by omega)))
  · rcases hk Y e with e2 | e2
    · exact h.ny e2
    · omega
  · refine hpf.but hfr fun k hk1 hk2 => ?_
    have h1 : w9.heap[k]? = (w7.setCell ⟨Y, 0, none⟩ (.slice (some ⟨PB, 0, none⟩) n n)).heap[k]? := hb9.block k hk2
    rw [hb.block k (by omega) (by omega) (by omega) (fun e => by have := (bv k e).2; omega), h1, far k (by omega)]
abbrev TwoC (X : Nat) (u v : Value) (W : World) : Prop := W.cell? ⟨X, 0, none⟩ = some u ∧ W.cell? ⟨X, 1, none⟩ = some v
theorem TwoC.kept {X : Nat} {u v : Value} {W W' : World} (h : TwoC X u v W) (hb : Below W.heap.size W W') : TwoC X u v W' := ⟨(hb.cell (World.block_lt_of_cell? W _ h.1)).trans h.1, (hb.cell (World.block_lt_of_cell? W _ h.2)).trans h.2⟩
theorem TwoC.set {X Y o : Nat} {u v : Value} {W : World} (h : TwoC X u v W) (hne : X ≠ Y) (x : Value) : TwoC X u v (W.setCell ⟨Y, o, none⟩ x) := by
  have k : ∀ p z, W.cell? ⟨X, p, none⟩ = some z → (W.setCell ⟨Y, o, none⟩ x).cell? ⟨X, p, none⟩ = some z := fun p z hz => by
    rw [World.cell?_setCell_other _ _ _ _ (by intro e; simp only [Addr.mk.injEq] at e; exact hne e.1.symm)]; exact hz
  exact ⟨k _ _ h.1, k _ _ h.2⟩

theorem AskS.set {W : World} {base X S : Nat} {g : Nat → K} {D : Nat → Int} {n : Nat} {v : Value} (h : AskS W base X S g D n v) {Y o : Nat} {x : Value} (h1 : Y ≠ X) (h2 : Y ≠ S) (h3 : v.ownBlock ≠ some Y) : AskS (W.setCell ⟨Y, o, none⟩ x) base X S g D n v := by
  have far : ∀ k, k ≠ Y → (W.setCell ⟨Y, o, none⟩ x).heap[k]? = W.heap[k]? := fun k hk => Below.heap_setCell _ _ _ _ hk
  have hX := far X (Ne.symm h1)
  have hS := far S (Ne.symm h2)
  refine ⟨(World.cell?_of_block (w := W) hX).trans h.cp, (World.cell?_of_block (w := W) hX).trans h.cv, (World.frozen?_of_block (w := W) hX).trans h.fv, ⟨h.own.1, ?_⟩, fun j hj => (World.cell?_of_block (w := W) hS).trans (h.sr j hj), fun j hj => (World.frozen?_of_block (w := W) hS).trans (h.sf j hj), h.ne, h.lX, h.lS, h.vX, h.vS⟩
  rcases h.own.2 with h2 | ⟨q, cap, cur, hv, hg, hh, r⟩
  · exact .inl h2
  · have hne : q ≠ Y := fun e => h3 (by rw [hv, e]; rfl)
    exact .inr ⟨q, cap, cur, hv, hg, (far q hne).trans hh, r⟩

set_option maxHeartbeats 8000000 in
set_option maxRecDepth 100000 in
theorem fpv_ok (c : CQ) (g b off n cap : Nat) (A : Nat → Option Addr) (C : Nat → Nat) (bi oi N ci M : Nat) (f : Nat → Int) (w : World)
    (hg : c.log = (g : Int)) (hn : c.layers.length = n) (hr : CRow w (some ⟨b, off, none⟩) c.layers A C) (hc : c.right) (sh : wrap64 ((2 : Int) ^ g) = (N : Int)) (hN : lenQ c 0 = N) (hM : lenQ c n = M) (hi : Row w bi oi N f) (vi : Nums f) (ht : Tab w) :
    Calls Tryz.prog 62 #[.agg #[.int .i64 (g : Int), .slice (some ⟨b, off, none⟩) n cap], .slice (some ⟨bi, oi, none⟩) N ci] w fun e w' => fproveOut c f n N M w e w' := by
  have n4 : n ≤ 4 := by have := hc.few; omega
  have n1 : 1 ≤ n := by have := List.length_pos_iff.2 hc.some; omega
  have hNr := lenQ_rng hc 0 (by omega)
  rw [hN] at hNr
  have hMr := lenQ_rng hc n (by omega)
  rw [hM] at hMr
  obtain ⟨T, hT⟩ : ∃ x, allL (rightP c f f) = x := ⟨_, rfl⟩
  obtain ⟨z, hz⟩ : ∃ x, (partsQ c).lg 0 = x := ⟨_, rfl⟩
  obtain ⟨Q, hQ⟩ : ∃ x, needQ c = x := ⟨_, rfl⟩
  have hneed : Q = z + T := by rw [← hQ, ← hz, ← hT]; exact all_need c f f
  have q40 : Q ≤ 40 := by rw [← hQ]; exact needQ_le hc
  have hle : z + T ≤ Q := by omega
  have HNE2 := hid hneed
  have hT1 : 1 ≤ T := by
    have := posF_mono (rightP c f f).rn (i := 0) (j := (rightP c f f).n) (by show 0 < c.layers.length; omega)
    rw [← hT]
    unfold allL
    omega
  have hbi := hi.lt hNr.1
  obtain ⟨a, ha⟩ : ∃ x, fiatA c N M f = x := ⟨_, rfl⟩
  have va : Nums a.D := by rw [← ha]; exact ask1_nums _ _ _ _ _
  have HFP : Hid (fiatP c N M f = roundP a z c f (T - 1)) := hid (by unfold fiatP lastP roundP; rw [ha, hT, hz])
  have HS0 := hid (StV.start w (g : Int) (.slice (some ⟨b, off, none⟩) n cap) 25 63)
  have HRU := hid (fun W (h : Below w.heap.size w W) => run_ok c g b off n cap A C bi oi N ci f W hg hn (hr.kept h) hc sh hN hNr.2 hNr.1 (hi.kept h hbi) vi)
  have HDR : Hid (∀ W, Below w.heap.size w W → Calls Tryz.prog 25 #[.agg #[.int .i64 (g : Int), .slice (some ⟨b, off, none⟩) n cap]] W fun e w' => e = .returned (.tuple #[.int .i64 (Q : Int), .int .i64 0]) ∧ Below W.heap.size W w') := hid (fun W h => by rw [← hQ]; exact draws_ok c g b off n cap A C W hg hn (hr.kept h) hc)
  have HAK : Hid (∀ W dk, Below w.heap.size w W → Row W dk 0 M (valsQ c f n) → Calls Tryz.prog 94 #[.agg #[.int .i64 (g : Int), .slice (some ⟨b, off, none⟩) n cap], .slice (some ⟨bi, oi, none⟩) N ci, .slice (some ⟨dk, 0, none⟩) M M] W fun e w' => ∃ base X S v, e = .returned (.pointer (some ⟨X, 0, none⟩)) ∧ W.heap.size ≤ base ∧ AskS w' base X S a.g a.D z v ∧ Below W.heap.size W w') := hid (fun W dk h hrow => by
    have := ask_any c g b off n cap A C (some ⟨bi, oi, none⟩) (some ⟨dk, 0, none⟩) N ci M M f (valsQ c f n) W hg hn (hr.kept h) hc (PRow.of (hi.kept h hbi)) vi (PRow.of hrow) (Nums_vals c f n)
    unfold askOut at this
    rw [← hn, show ask1 c N M f (valsQ c f c.layers.length) = a from ha, hz] at this
    rw [← hn]
    exact this)
  have HPV : Hid (∀ W bd (D : Nat → Int), Below w.heap.size w W → Row W bd 0 Q D → Nums D → Calls Tryz.prog 26 #[.agg #[.int .i64 (g : Int), .slice (some ⟨b, off, none⟩) n cap], .slice (some ⟨bi, oi, none⟩) N ci, .slice (some ⟨bd, 0, none⟩) Q Q] W fun e w' => proveOut c f D n W e w') := hid (fun W bd D h hd vd => pv_ok c g b off n cap A C bi oi N ci f bd 0 Q Q D W hg hn (hr.kept h) hc sh hN (hi.kept h hbi) vi hd vd hQ.symm (Nat.le_refl _) (Nat.le_trans q40 (by decide)) (ht.kept h ht.1))
  have HIO : Hid (∀ W PB t m, PfRow W (some ⟨PB, 0, none⟩) (roundP a z c f t) m → Calls Tryz.prog 97 #[.agg #[.slice (some ⟨PB, 0, none⟩) n n]] W fun e w' => ∃ q cl, e = .returned (.slice (some ⟨q, 0, none⟩) T cl) ∧ W.heap.size ≤ q ∧ (∀ i, i < T → w'.cell? ⟨q, i, none⟩ = some (.slice (lsA (roundP a z c f t) m i) (lsN (roundP a z c f t) i) (lsC (roundP a z c f t) m i))) ∧ Below W.heap.size W w') := hid (fun W PB t m hpf => by
    have := inOrder_any (some ⟨PB, 0, none⟩) n n (roundP a z c f t) m W hn n1 n4 (fun j hj => by show 2 * (partsQ c).lg (j + 1) ≤ 8; have := parts_lg hc (j + 1); omega) hpf
    unfold inOut at this
    rw [show allL (roundP a z c f t) = T from by unfold roundP; rw [all_eq c f _ f]; exact hT] at this
    exact this)
  have HLT : Hid (∀ t i, i < T → i < allL (roundP a z c f t)) := hid (fun t i h => by unfold roundP; rw [all_eq c f _ f, hT]; exact h)
  have HM := hid hM
  have HVA := hid va
  clear hg hn hr hc hi vi ht sh hN hM hNr hT hz hQ ha hbi va hneed
  go_enter Tryz.func62, Tryz.ntmps62
  go_wp2_with fail
  obtain ⟨X, hX⟩ : ∃ X, w.heap.size = X := ⟨_, rfl⟩
  rw [hX] at HS0
  rw [hX]
  have HX := hid hX
  clear hX
  generalize (w.alloc (.cells #[.int .i64 (g : Int), .slice (some ⟨b, off, none⟩) n cap] 25)).alloc (.cells #[.slice none 0 0] 63) = W0 at HS0 ⊢
  refine (HRU.out _ HS0.out.st.bel).mono ?_
  rintro e w1 ⟨V, Dv, rfl, hO⟩
  have HS1 := hid (HS0.out.next hO.below)
  have hcv := hO.cell n (by omega)
  have hrv := hO.row n (by omega)
  have hown := hO.own n (by omega)
  obtain ⟨dk, hdk⟩ : ∃ x, Dv n = x := ⟨_, rfl⟩
  rw [HM.out, hdk] at hcv hrv
  rw [hdk] at hown
  have HRV : Hid (Row w1 dk 0 M (valsQ c f n) ∧ dk < w1.heap.size ∧ X + 1 < dk) := hid ⟨hrv, hown.2.1, by have h1 := HS0.out.lt; omega⟩
  clear hO HS0 HRU hown hrv hdk
  have n0 : (0 : Int) ≤ (n : Int) := by omega
  have n2 : (n : Int) < (n : Int) + 1 := by omega
  have n3 : n < n + 1 := by omega
  obtain ⟨z0, z1, zl⟩ := HS1.out.st.box
  go_wp2_with fail
  refine (HDR.out _ HS1.out.st.bel).mono ?_
  rintro e w2 ⟨rfl, hb⟩
  have HS2 := hid (HS1.out.next hb)
  have HRV2 : Hid (Row w2 dk 0 M (valsQ c f n) ∧ dk < w2.heap.size ∧ X + 1 < dk) := hid ⟨HRV.out.1.kept hb HRV.out.2.1, Nat.lt_of_lt_of_le HRV.out.2.1 hb.size, HRV.out.2.2⟩
  clear hb HS1 HRV HDR z0 z1 zl hcv n2 n3
  obtain ⟨z0, z1, zl⟩ := HS2.out.st.box
  go_wp2_with fail
  refine (HAK.out _ dk HS2.out.st.bel HRV2.out.1).mono ?_
  rintro e w3 ⟨base, XA, S, v, rfl, hbase, hask, hb⟩
  obtain ⟨av, cv, rfl, _, _⟩ := hask.own.is
  have hal := (Below.refl w3.heap.size w3).alloc (Nat.le_refl _) (.cells #[.slice none 0 0] 63)
  have HA4 := hid (hask.kept hal)
  have HY : Hid (w3.heap.size ≠ XA ∧ w3.heap.size ≠ S ∧ base ≤ w3.heap.size ∧ (Value.slice av z cv).ownBlock ≠ some w3.heap.size ∧ X + 1 < base ∧ X ≠ w3.heap.size) := hid (by
    have h1 := hask.ltX
    have h2 := hask.ltS
    have h3 := hask.le
    have h4 := HS2.out.lt
    exact ⟨by omega, by omega, h3, fun e => by have := (World.ownsRow.lt hask.own _ e).2; omega, by omega, by omega⟩)
  have HKE : Hid (∀ W, Below base (w3.alloc (.cells #[.slice none 0 0] 63)) W → StV w W X (g : Int) (.slice (some ⟨b, off, none⟩) n cap) ∧ Row W dk 0 M (valsQ c f n)) := hid (fun W h => by
    have h1 : Below w2.heap.size w2 W := (hb.trans (hal.mono hb.size)).trans (h.mono hbase)
    exact ⟨HS2.out.next h1, HRV2.out.1.kept h1 HRV2.out.2.1⟩)
  have HDK := hid HRV2.out.2.2
  have cy0 : (w3.alloc (.cells #[.slice none 0 0] 63)).cell? ⟨w3.heap.size, 0, none⟩ = some (.slice none 0 0) := by rw [World.cell?_alloc_new]; rfl
  have fy0 : (w3.alloc (.cells #[.slice none 0 0] 63)).frozen? ⟨w3.heap.size, 0, none⟩ = false := by rw [World.frozen?_alloc_new]
  have HCY := hid (And.intro cy0 fy0)
  have zc := HA4.out.cv
  have hsub : IntKind.i64.wrap ((Q : Int) - (z : Int)) = (T : Int) := by rw [show (Q : Int) - (z : Int) = (T : Int) from by have := HNE2.out; omega]; exact IntWalk.i64_in _ (by omega)
  have hsub2 : (Q : Int) - (z : Int) = (T : Int) := by have := HNE2.out; omega
  clear hask hb hbase hal HAK HS2 HRV2 z0 z1 zl cy0 fy0
  go_wp2_with fail
  clear zc hsub hsub2
  obtain ⟨Y, hY⟩ : ∃ x, w3.heap.size = x := ⟨_, rfl⟩
  rw [hY] at HY HCY
  rw [hY]
  clear hY
  generalize w3.alloc (.cells #[.slice none 0 0] 63) = W4 at HA4 HKE HCY ⊢
  have HP0 : Hid (FpS W4 W4 base XA S Y a z c f n 0 (.slice av z cv) (.slice none 0 0)) := hid ⟨HA4.out, Below.refl _ _, HCY.out.1, HCY.out.2, HY.out.2.2.2.1, .inl rfl⟩
  clear HA4 HCY
  go_loopg [47] T (fun q i wr => ∃ (t : Nat) (v pv : Value), t ≤ T ∧ q = T - t ∧ i = .int .i64 (t : Int) ∧ Hid (FpS W4 wr base XA S Y a z c f n t v pv))
  case atStart => exact ⟨0, _, _, by omega, rfl, rfl, HP0⟩
  case round =>
    clear HP0
    obtain ⟨t, v, pv, htT, rfl, rfl, HP⟩ := hrel
    have HKW := hid (HKE.out wr HP.out.bel)
    by_cases htl : t < T
    · have t0 : (0 : Int) ≤ (t : Int) := by omega
      have t1 : (t : Int) < (T : Int) := by omega
      have HFI : Hid (Calls Tryz.prog 95 #[.pointer (some ⟨XA, 0, none⟩), .int .i64 (Q : Int)] wr.drew fun e w' => e = .returned (.slice (some ⟨wr.heap.size, 0, none⟩) Q Q) ∧ Made wr.drew w' Q (filF (z + t) (tellP a z c f t).D)) := hid (filled_any base XA S _ _ (z + t) v Q wr.drew HP.out.ask.drew (by omega) (by omega))
      have HPV2 : Hid (∀ W, Below wr.heap.size wr W → Row W wr.heap.size 0 Q (filF (z + t) (tellP a z c f t).D) → Calls Tryz.prog 26 #[.agg #[.int .i64 (g : Int), .slice (some ⟨b, off, none⟩) n cap], .slice (some ⟨bi, oi, none⟩) N ci, .slice (some ⟨wr.heap.size, 0, none⟩) Q Q] W fun e w' => proveOut c f (filF (z + t) (tellP a z c f t).D) n W e w') := hid (fun W h hrow => HPV.out W wr.heap.size _ (HKW.out.1.st.bel.trans (h.mono HKW.out.1.st.bel.size)) hrow (Nums_fil fun j _ => tell_nums HVA.out z c f t j))
      obtain ⟨DD, hDD⟩ : ∃ D, filF (z + t) (tellP a z c f t).D = D := ⟨_, rfl⟩
      have HDD := hid hDD
      rw [hDD] at HFI HPV2
      clear hDD
      have nc : TwoC X (.int .i64 (g : Int)) (.slice (some ⟨b, off, none⟩) n cap) wr := ⟨HKW.out.1.st.box.c0, HKW.out.1.st.box.c1⟩
      have HLY : Hid (Y < wr.heap.size) := hid (World.block_lt_of_cell? wr _ HP.out.cy)
      go_wp2_with fail
      go_region_held3 (TwoC X (.int .i64 (g : Int)) (.slice (some ⟨b, off, none⟩) n cap)) (first | assumption | exact nc6 | exact nc7 | exact nc8 _) (first
        | (go_at_call 95; refine (HFI.out).mono ?_; rintro e w6 ⟨rfl, hm⟩; have hb6 : Below wr.heap.size wr w6 := (Below.refl _ wr).drew.trans hm.below; have nc6 := nc.kept hb6; have HR6 : Hid (Row w6 wr.heap.size 0 Q DD) := hid hm.row; clear hm)
        | (go_at_call 26; refine (HPV2.out w6 hb6 HR6.out).mono ?_; rintro e w7 ⟨PB, m, rfl, hpf, hlow, hb⟩; have HPF0 := hid hpf; have hb7 : Below wr.heap.size wr w7 := hb6.trans (hb.mono hb6.size); have nc7 := nc.kept hb7; have nc8 := fun x => nc7.set (Y := Y) (o := 0) HY.out.2.2.2.2.2 x; have cz : w7.cell? ⟨Y, 0, none⟩ = some pv := (hb7.cell HLY.out).trans HP.out.cy; have fz : w7.frozen? ⟨Y, 0, none⟩ = false := (hb7.frozen HLY.out).trans HP.out.fy; have hl7 : wr.heap.size ≤ PB := Nat.le_trans hb6.size hlow.1; have HFR0 := hid hlow.2; clear hb hlow hpf))
      have HB7 := hid hb7
      have HPF7 : Hid (PfRow w7 (some ⟨PB, 0, none⟩) (roundP a z c f t) m) := hid (by unfold roundP; rw [HDD.out]; exact HPF0.out)
      have HFR : Hid (m.fresh (roundP a z c f t) PB) := hid (by unfold roundP; rw [HDD.out]; exact HFR0.out)
      have HL7 := hid hl7
      have c8 := World.cell?_setCell_same w7 ⟨Y, 0, none⟩ (.slice (some ⟨PB, 0, none⟩) n n) cz
      have far8 : ∀ k, k ≠ Y → (w7.setCell ⟨Y, 0, none⟩ (.slice (some ⟨PB, 0, none⟩) n n)).heap[k]? = w7.heap[k]? := fun k hk => Below.heap_setCell _ _ _ _ hk
      have HPF8 : Hid (PfRow (w7.setCell ⟨Y, 0, none⟩ (.slice (some ⟨PB, 0, none⟩) n n)) (some ⟨PB, 0, none⟩) (roundP a z c f t) m) := hid (HPF7.out.but HFR.out fun k h1 h2 => far8 k (by have h3 := HLY.out; have h4 := HL7.out; omega))
      clear far8
      have HA8 := hid ((HP.out.ask.kept hb7).set (Y := Y) (o := 0) (x := .slice (some ⟨PB, 0, none⟩) n n) HY.out.1 HY.out.2.1 HP.out.ny)
      clear nc nc6 nc7 nc8 hb6 HR6 hb7 cz fz hl7 HFR0 HPF0 HFI HPV2
      obtain ⟨W8, hW8⟩ : ∃ W, w7.setCell ⟨Y, 0, none⟩ (.slice (some ⟨PB, 0, none⟩) n n) = W := ⟨_, rfl⟩
      rw [hW8] at c8 HPF8 HA8
      rw [hW8]
      have HW8 := hid hW8
      clear hW8
      go_wp2_with fail
      refine (HIO.out W8 PB t m HPF8.out).mono ?_
      rintro e w9 ⟨q, cl, rfl, hq, hcell, hb⟩
      have cz := hcell t htl
      have HB9 := hid hb
      have hpl := (ls_prow HPF8.out (HLT.out t t htl)).kept hb
      have hne : 0 < lsN (roundP a z c f t) t → ∀ c' o, lsA (roundP a z c f t) m t = some ⟨c', o, none⟩ → c' ≠ S := fun _ c' o e => by
        obtain ⟨q', eq, hq'⟩ := ls_fresh HFR.out (HLT.out t t htl)
        rw [e] at eq
        injection eq with eq; injection eq with e1 e2
        have h1 := HL7.out
        have h2 := HP.out.ask.ltS
        omega
      have HHE := hid (hear_any base XA S _ _ (z + t) (v) (lsA (roundP a z c f t) m t) (lsN (roundP a z c f t) t) (lsC (roundP a z c f t) m t) (lsF (roundP a z c f t) t) w9 (HA8.out.kept hb) (by omega) hpl (ls_nums (rightP_nums _ _ _) (HLT.out t t htl)) hne)
      clear hq hcell hb hpl hne c8
      go_wp2_with fail
      refine (HHE.out).mono ?_
      rintro e w10 ⟨rfl, v2, ha, hb10, hk⟩
      have HPN := hid (HP.out.step HY.out.1 HY.out.2.1 HY.out.2.2.1 HB7.out HPF7.out HL7.out HFR.out (n := n) (w9 := w9) (by
        have h := HB9.out
        rw [← HW8.out] at h
        rw [World.size_setCell] at h
        exact h) ha hb10 hk)
      clear ha hb10 hk cz HHE
      go_wp2_with fail
      go_roundg (T - (t + 1))
      case measure => go_light; omega
      case rel => exact ⟨t + 1, v2, _, by omega, rfl, by go_num, HPN⟩
    · have e : t = T := by omega
      subst e
      have t1 : ¬ ((t : Int) < (t : Int)) := by omega
      obtain h0 | ⟨PB, m, rfl, hpf, hlow, hfr⟩ := HP.out.pf
      · omega
      have cz := HP.out.cy
      have pc := HKW.out.1.st.pc
      have fz := HKW.out.1.free
      have HPF := hid hpf
      have HFR := hid hfr
      have HLO := hid hlow
      clear hpf hfr hlow
      go_wp2_with fail
      go_region
      all_goals (go_wp2_with fail)
      all_goals (refine bodyPost_ret (results_prf3 rfl rfl (World.cell?_setCell_same _ _ _ pc)) rfl ?_)
      all_goals
        have h1 := HY.out.2.2.2.2.1
        have h2 := HDK.out
        have h3 := HLO.out
        have h4 := HX.out
        have far : ∀ k, k ≠ X + 1 → (wr.setCell ⟨X + 1, 0, none⟩ (.slice (some ⟨PB, 0, none⟩) n n)).heap[k]? = wr.heap[k]? := fun k hk => Below.heap_setCell _ _ _ _ hk
        refine ⟨dk, PB, m, rfl, fun j hj => (World.cell?_of_block (w := wr) (far dk (by omega))).trans (HKW.out.2 j hj), ?_, by omega, ?_, (HKW.out.1.st.bel.setCell (p := ⟨X + 1, 0, none⟩) (by show w.heap.size ≤ X + 1; omega) _).drew⟩
        · rw [HFP.out]; exact HPF.out.but HFR.out (fun k hk1 hk2 => far k (by omega))
        · rw [HFP.out]; exact HFR.out

end Go.Proofs.YtbchbmelofojkaaGreatDoor

/-
  Plain: a right circuit's numbers, as the laws ask for them; no program in it.
-/
namespace Go.Proofs.YtbchbmelofojkaaGreatDoor
open Go.RowKit
set_option linter.unusedVariables false

/-- A right circuit's numbers, as the laws ask for them. -/
theorem right_nums {c : CQ} {g : Int} {n : Nat} (hg : c.log = g) (hn : c.layers.length = n) (hc : c.right) : ∃ gn N : Nat, g = (gn : Int) ∧ gn ≤ 4 ∧ wrap64 ((2 : Int) ^ gn) = (N : Int) ∧ lenQ c 0 = N ∧ 1 ≤ N ∧ N ≤ 16 ∧ N = 2 ^ (partsQ c).lg n := by
  obtain ⟨gn, h1⟩ : ∃ gn : Nat, g = (gn : Int) := ⟨g.toNat, by have := hc.log; omega⟩
  have g4 : gn ≤ 4 := by have := hc.log; omega
  have e : lenQ c 0 = 2 ^ gn := by
    show 2 ^ (c.log).toNat = 2 ^ gn
    rw [hg, h1, Int.toNat_natCast]
  have hr := lenQ_rng hc 0 (by omega)
  rw [e] at hr
  refine ⟨gn, 2 ^ gn, h1, g4, shl_pow (by omega), e, hr.1, hr.2, ?_⟩
  rw [lg_bot (k := gn) hn (by show c.log = _; rw [hg, h1])]
theorem top_len {c : CQ} {n : Nat} (hn : c.layers.length = n) : lenQ c n = 2 ^ (partsQ c).lg 0 := by
  show 2 ^ (belowQ c n).toNat = 2 ^ (belowQ c (c.layers.length - 0)).toNat
  rw [hn, Nat.sub_zero]

end Go.Proofs.YtbchbmelofojkaaGreatDoor

/-
  What is proved without asking holds: Prove's proof of a right circuit, held by Verify with its own outputs.
-/
namespace Go.Proofs.YtbchbmelofojkaaGreatDoor
open Go.RowKit
set_option linter.unusedVariables false

theorem fiatP_shaped (c : CQ) (N M : Nat) (f : Nat → Int) : shapedQ c (fiatP c N M f) := rightP_shaped _ _ _
theorem fiatP_nums (c : CQ) (N M : Nat) (f : Nat → Int) : (fiatP c N M f).nums := rightP_nums _ _ _
theorem fiat_yes {c : CQ} (hc : c.right) (N M : Nat) (f : Nat → Int) :
    (partsQ c).holds (fiatD c N M f (valsQ c f c.layers.length) (fiatP c N M f)) (fiatP c N M f).told (ofK (evS (fun j => kk (valsQ c f c.layers.length j)) (fun j => kk (fiatD c N M f (valsQ c f c.layers.length) (fiatP c N M f) j)) ((partsQ c).lg 0))) (fun j => kk (f j)) :=
by
  have h := last_holds hc (fiatA c N M f) f (allL (rightP c f f)) rfl
  have e : allL (fiatP c N M f) = allL (rightP c f f) := by unfold fiatP lastP; exact all_eq c f _ f
  unfold fiatD
  rw [e]
  exact h
/-- Verify, of right things: it holds for just the proofs that hold for the draws that the sponge gives. -/
theorem fvf_ok (c : CQ) (g : Int) (b off n cap : Nat) (A : Nat → Option Addr) (C : Nat → Nat) (bi oi ni ci bo oo no co : Nat) (fi fo : Nat → Int) (ap : Option Addr) (np cp : Nat) (p : PQ) (m : PM) (w : World)
    (hg : c.log = g) (hn : c.layers.length = n) (hr : CRow w (some ⟨b, off, none⟩) c.layers A C) (hc : c.right) (hp : p.n = np) (hpr : PfRow w ap p m) (hpn : p.nums) (hs : shapedQ c p) (hen : endsQ c ni no) (hi : Row w bi oi ni fi) (vi : Nums fi) (ho : Row w bo oo no fo) (vo : Nums fo) (ht : Tab w) :
    Calls Tryz.prog 64 #[.agg #[.int .i64 g, .slice (some ⟨b, off, none⟩) n cap], .slice (some ⟨bi, oi, none⟩) ni ci, .slice (some ⟨bo, oo, none⟩) no co, .agg #[.slice ap np cp]] w fun e w' => ∃ r x, e = .returned (.tuple #[.bool r, .int .i64 x]) ∧ (x = 0 ∧ (r = true ↔ (partsQ c).holds (fiatD c ni no fi fo p) p.told (ofK (evS (fun j => kk (fo j)) (fun j => kk (fiatD c ni no fi fo p j)) ((partsQ c).lg 0))) (fun j => kk (fi j)))) ∧ Below w.heap.size w w' := by
  have hni : 0 < ni := by rw [hen.1]; exact Nat.two_pow_pos _
  have hno : 0 < no := by rw [hen.2]; exact Nat.two_pow_pos _
  refine fvf_run c g b off n cap A C (some ⟨bi, oi, none⟩) (some ⟨bo, oo, none⟩) ni ci no co fi fo ap np cp p m w _ hg hn hr hc hp hpr hpn hs (PRow.of hi) vi (PRow.of ho) vo (hid fun W bd cd h hd hcd hcm => ?_)
  refine (vf_ok c g b off n cap A C bi oi ni ci bo oo no co fi fo ap np cp p m bd 0 (needQ c) cd (fiatD c ni no fi fo p) W hg hn (hr.kept h) hc hp (hpr.kept h) hpn hs hen (hi.kept h (hi.lt hni)) vi (ho.kept h (ho.lt hno)) vo hd (fiatD_nums _ _ _ _ _ _) rfl hcd hcm (ht.kept h ht.1)).mono ?_
  rintro e w' ⟨r, rfl, hr, hb⟩
  exact ⟨r, 0, rfl, ⟨rfl, hr⟩, hb⟩
theorem fvf_yes (c : CQ) (g : Int) (b off n cap : Nat) (A : Nat → Option Addr) (C : Nat → Nat) (bi oi N ci bo oo M co : Nat) (f : Nat → Int) (ap : Option Addr) (cp : Nat) (m : PM) (w : World)
    (hg : c.log = g) (hn : c.layers.length = n) (hr : CRow w (some ⟨b, off, none⟩) c.layers A C) (hc : c.right) (hN : N = 2 ^ (partsQ c).lg n) (hM : lenQ c n = M) (hi : Row w bi oi N f) (vi : Nums f) (ho : Row w bo oo M (valsQ c f n)) (hpr : PfRow w ap (fiatP c N M f) m) (ht : Tab w) :
    Calls Tryz.prog 64 #[.agg #[.int .i64 g, .slice (some ⟨b, off, none⟩) n cap], .slice (some ⟨bi, oi, none⟩) N ci, .slice (some ⟨bo, oo, none⟩) M co, .agg #[.slice ap n cp]] w fun e w' => e = .returned (.tuple #[.bool true, .int .i64 0]) ∧ Below w.heap.size w w' := by
  refine (fvf_ok c g b off n cap A C bi oi N ci bo oo M co f (valsQ c f n) ap n cp (fiatP c N M f) m w hg hn hr hc hn hpr (fiatP_nums _ _ _ _) (fiatP_shaped _ _ _ _) ⟨by rw [hn]; exact hN, by rw [← hM]; exact top_len hn⟩ hi vi ho (Nums_vals c f n) ht).mono ?_
  rintro e w' ⟨r, x, rfl, ⟨rfl, hrr⟩, hb⟩
  have hy := fiat_yes hc N M f
  rw [hn] at hy
  exact ⟨by rw [hrr.2 hy], hb⟩

end Go.Proofs.YtbchbmelofojkaaGreatDoor
