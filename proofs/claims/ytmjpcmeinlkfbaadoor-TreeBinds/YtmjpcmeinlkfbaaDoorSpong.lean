/-
  Plain: the sponge's three numbers as rests: a turn, mixing, taking; and what a call leaves that turns one block alone; no program in it.
-/
import Derived.Test.YtmjpcmeinlkfbaaDoorMulti
import Derived.Test.YtmjpcmeinlkfbaaDoorMem
namespace Go.Proofs.YtmjpcmeinlkfbaaDoor
open Go.RowKit
set_option linter.unusedVariables false

def sqK (a : K) : Nat → K
  | 0 => a
  | n + 1 => sqK a n * sqK a n
/-- The 17th power: four squares, and once more. -/
def p17 (a : K) : K := sqK a 4 * a
/-- What number j has become in turn i, ahead of the sums. -/
def powK (i : Nat) (g : Nat → K) (j : Nat) : K := p17 (g j + kn (i * (j + 1)))
/-- Turn i. -/
def turnK (i : Nat) (g : Nat → K) (k : Nat) : K := powK i g 0 + powK i g 1 + (powK i g 2 + powK i g k)
/-- The first n turns. -/
def mixK (g : Nat → K) : Nat → Nat → K
  | 0 => g
  | n + 1 => turnK (n + 1) (mixK g n)
def mixed (g : Nat → K) : Nat → K := mixK g 8
/-- A new sponge's numbers, ahead of mixing. -/
def newK (word : Int) (k : Nat) : K := if k = 0 then 0 else if k = 1 then 1 else kk word
/-- The number x is taken. -/
def addK (g : Nat → K) (x : K) (k : Nat) : K := if k = 0 then g 0 + x else g k
def takeK (g : Nat → K) (x : K) : Nat → K := mixed (addK g x)
/-- How many there are, and the first k numbers of a list. -/
def takesK (g : Nat → K) (n : Nat) (f : Nat → Int) : Nat → Nat → K
  | 0 => takeK g (kn n)
  | k + 1 => takeK (takesK g n f k) (kk (f k))
theorem turnK_congr {g h : Nat → K} (i k : Nat) (hk : k < 3) (e : ∀ j, j < 3 → g j = h j) : turnK i g k = turnK i h k := by
  unfold turnK powK
  rw [e 0 (by omega), e 1 (by omega), e 2 (by omega), e k hk]
theorem mixK_congr {g h : Nat → K} (n : Nat) : ∀ k, k < 3 → (∀ j, j < 3 → g j = h j) → mixK g n k = mixK h n k := by
  induction n with
  | zero => exact fun k hk e => e k hk
  | succ n ih => exact fun k hk e => turnK_congr (n + 1) k hk fun j hj => ih j hj e
/-- The numbers as they lie in memory. -/
def numsK (g : Nat → K) (k : Nat) : Int := ofK (g k)
theorem Nums_K (g : Nat → K) : Nums (numsK g) := fun k => ofK_u64 _
theorem numsK_rng (g : Nat → K) (k : Nat) : 0 ≤ numsK g k ∧ numsK g k ≤ 2305843009213693950 := ofK_rng _

/-- w' is w, but for block b, and for what is new. -/
structure Turned (b : Nat) (w w' : World) : Prop where
  os : w'.os = w.os
  tape : w'.tape = w.tape
  output : w'.output = w.output
  size : w.heap.size ≤ w'.heap.size
  block : ∀ k, k < w.heap.size → k ≠ b → w'.heap[k]? = w.heap[k]?
theorem Turned.refl (b : Nat) (w : World) : Turned b w w := ⟨rfl, rfl, rfl, Nat.le_refl _, fun _ _ _ => rfl⟩
theorem Turned.trans {b : Nat} {w w' w'' : World} (h : Turned b w w') (g : Turned b w' w'') : Turned b w w'' :=
  ⟨g.os.trans h.os, g.tape.trans h.tape, g.output.trans h.output, Nat.le_trans h.size g.size, fun k hk hb => (g.block k (Nat.lt_of_lt_of_le hk h.size) hb).trans (h.block k hk hb)⟩
theorem Turned.drew {b : Nat} {w w' : World} (h : Turned b w w') : Turned b w w'.drew := ⟨h.os, h.tape, h.output, h.size, h.block⟩
theorem Turned.of_below {b : Nat} {w w' : World} (h : Below w.heap.size w w') : Turned b w w' := ⟨h.os, h.tape, h.output, h.size, fun k hk _ => h.block k hk⟩
theorem Turned.below {b B : Nat} {w w' : World} (h : Turned b w w') (hB : B ≤ b) (hw : B ≤ w.heap.size) : Below B w w' := ⟨h.os, h.tape, h.output, h.size, fun k hk => h.block k (by omega) (by omega)⟩
theorem Turned.of_wrote {b o n : Nat} {w w' : World} (h : Wrote b o n w w') : Turned b w w' := ⟨h.os, h.tape, h.output, by rw [h.size]; exact Nat.le_refl _, fun k _ hb => h.block k hb⟩
theorem Turned.setCell {b : Nat} {w w' : World} (h : Turned b w w') (p : Nat) (u : Value) : Turned b w (w'.setCell ⟨b, p, none⟩ u) :=
  ⟨h.os, h.tape, h.output, by rw [World.size_setCell]; exact h.size, fun k hk hb => by rw [Below.heap_setCell _ _ _ _ hb]; exact h.block k hk hb⟩
theorem Row.turned {b c o n : Nat} {f : Nat → Int} {w w' : World} (h : Row w c o n f) (g : Turned b w w') (hb : c ≠ b) : Row w' c o n f := fun j hj =>
  (World.cell?_of_block (w := w) (g.block c (World.block_lt_of_cell? w _ (h j hj)) hb)).trans (h j hj)
theorem Free.turned {b c o n : Nat} {f : Nat → Int} {w w' : World} (h : Free w c o n) (hr : Row w c o n f) (g : Turned b w w') (hb : c ≠ b) : Free w' c o n := fun j hj => by
  have hl : c < w.heap.size := World.block_lt_of_cell? w _ (hr j hj)
  have e := h j hj
  unfold World.frozen? at e ⊢
  rw [g.block c hl hb]
  exact e

/-- The 17th power as package field reckons it. -/
theorem p17_powQ (x : Int) : powQ x 17 = ofK (p17 (kk x)) := by
  have h2 : kk (powQ x 2) = sqK (kk x) 1 := by rw [show 2 = 1 + 1 from rfl, powQ_add, kk_mulQ, powQ_one, kk_nrm]; rfl
  have h4 : kk (powQ x 4) = sqK (kk x) 2 := by rw [show 4 = 2 + 2 from rfl, powQ_add, kk_mulQ, h2]; rfl
  have h8 : kk (powQ x 8) = sqK (kk x) 3 := by rw [show 8 = 4 + 4 from rfl, powQ_add, kk_mulQ, h4]; rfl
  have h16 : kk (powQ x 16) = sqK (kk x) 4 := by rw [show 16 = 8 + 8 from rfl, powQ_add, kk_mulQ, h8]; rfl
  refine eq_ofK (powQ_rng x 17).1 (powQ_rng x 17).2 ?_
  rw [show 17 = 16 + 1 from rfl, powQ_add, kk_mulQ, h16, powQ_one, kk_nrm]; rfl
/-- What Pair makes of two numbers. -/
def pairF (a b : Int) (j : Nat) : Int := if j = 0 then a else b
def pairK (a b : Int) : K := takesK (mixed (newK 7)) 2 (pairF a b) 2 1
theorem takesK_congr {g : Nat → K} (n : Nat) {f f' : Nat → Int} (m : Nat) (h : ∀ j, j < m → kk (f j) = kk (f' j)) : takesK g n f m = takesK g n f' m := by
  induction m with
  | zero => rfl
  | succ m ih => rw [takesK, takesK, ih fun j hj => h j (by omega), h m (by omega)]
theorem pairK_congr {a b c d : Int} (h : kk a = kk c) (g : kk b = kk d) : pairK a b = pairK c d := by
  unfold pairK
  rw [takesK_congr 2 2 (f := pairF a b) (f' := pairF c d) fun j _ => by
    unfold pairF
    by_cases e : j = 0
    · rw [if_pos e, if_pos e, h]
    · rw [if_neg e, if_neg e, g]]
theorem newK_congr {a b : Int} (h : kk a = kk b) : newK a = newK b := by unfold newK; rw [h]
theorem add_row {w : World} {b : Nat} {g : Nat → K} {x : Int} (hr : Row w b 0 3 (numsK g)) (hf : Free w b 0 3) : Row (w.setCell ⟨b, 0, none⟩ (.int .u64 (addQ (ofK (g 0)) x))) b 0 3 (numsK (addK g (kk x))) ∧ Free (w.setCell ⟨b, 0, none⟩ (.int .u64 (addQ (ofK (g 0)) x))) b 0 3 := by
  have hs := hr.store 0 (addQ (ofK (g 0)) x) (by omega)
  rw [Nat.zero_add] at hs
  refine ⟨hs.congr fun j hj => ?_, fun j hj => by rw [World.frozen?_setCell]; exact hf j hj⟩
  unfold numsK addK
  by_cases e : j = 0
  · rw [if_pos e, if_pos e, addQ_ofK, kk_ofK]
  · rw [if_neg e, if_neg e]
/-- Three numbers. -/
def set3 (x y z : Int) (j : Nat) : Int := if j = 0 then x else if j = 1 then y else z
theorem row_new3 (w : World) (x y z : Int) (t : TypeId) : Row (w.alloc (.cells #[.int .u64 x, .int .u64 y, .int .u64 z] t)) w.heap.size 0 3 (set3 x y z) ∧ Free (w.alloc (.cells #[.int .u64 x, .int .u64 y, .int .u64 z] t)) w.heap.size 0 3 := by
  refine ⟨fun j hj => ?_, fun j _ => ?_⟩
  · rw [Nat.zero_add, World.cell?_alloc_new]
    match j, hj with
    | 0, _ => rfl
    | 1, _ => rfl
    | 2, _ => rfl
  · rw [Nat.zero_add, World.frozen?_alloc_new]
theorem kk_set3 (word : Int) : (fun k => kk (set3 0 1 word k)) = newK word := by
  funext k
  unfold set3 newK
  by_cases h0 : k = 0
  · rw [if_pos h0, if_pos h0]; rfl
  · rw [if_neg h0, if_neg h0]
    by_cases h1 : k = 1
    · rw [if_pos h1, if_pos h1]; rfl
    · rw [if_neg h1, if_neg h1]
theorem Nums_set3 {x y z : Int} (hx : 0 ≤ x ∧ x ≤ 18446744073709551615) (hy : 0 ≤ y ∧ y ≤ 18446744073709551615) (hz : 0 ≤ z ∧ z ≤ 18446744073709551615) : Nums (set3 x y z) := fun j => by
  unfold set3
  split
  · exact hx
  · split
    · exact hy
    · exact hz
theorem pair_lit (w : World) (a b : Int) (t : TypeId) : Row (w.alloc (.cells #[.int .u64 a, .int .u64 b] t)) w.heap.size 0 2 (pairF a b) := by
  intro j hj
  rw [Nat.zero_add, World.cell?_alloc_new]
  match j, hj with
  | 0, _ => rfl
  | 1, _ => rfl
theorem Nums_pair {a b : Int} (h0 : 0 ≤ a) (h1 : a ≤ 18446744073709551615) (g0 : 0 ≤ b) (g1 : b ≤ 18446744073709551615) : Nums (pairF a b) := fun j => by
  unfold pairF
  split <;> omega

/-- Two sponges stand side by side; nothing that was there is written. -/
structure Play (w W : World) (sb tb : Nat) (g h : Nat → K) : Prop where
  below : Below w.heap.size w W
  sr : Row W sb 0 3 (numsK g)
  sf : Free W sb 0 3
  tr : Row W tb 0 3 (numsK h)
  tf : Free W tb 0 3
theorem Play.s {w W W1 : World} {sb tb : Nat} {g h g' : Nat → K} (p : Play w W sb tb g h) (hs : w.heap.size ≤ sb) (hne : tb ≠ sb) (ht : Turned sb W W1) (hr : Row W1 sb 0 3 (numsK g')) (hf : Free W1 sb 0 3) : Play w W1 sb tb g' h :=
  ⟨p.below.trans (ht.below hs p.below.size), hr, hf, p.tr.turned ht hne, p.tf.turned p.tr ht hne⟩
theorem Play.t {w W W1 : World} {sb tb : Nat} {g h h' : Nat → K} (p : Play w W sb tb g h) (hs : w.heap.size ≤ tb) (hne : tb ≠ sb) (ht : Turned tb W W1) (hr : Row W1 tb 0 3 (numsK h')) (hf : Free W1 tb 0 3) : Play w W1 sb tb g h' :=
  ⟨p.below.trans (ht.below hs p.below.size), p.sr.turned ht (Ne.symm hne), p.sf.turned p.sr ht (Ne.symm hne), hr, hf⟩

end Go.Proofs.YtmjpcmeinlkfbaaDoor
