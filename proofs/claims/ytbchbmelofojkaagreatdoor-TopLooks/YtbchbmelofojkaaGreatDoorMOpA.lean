/-
  Several texts in one: OwnV, Tree, Opn, TreeCl, OpA, OpB, OpC, Qui, OpD, OpE, TreeR; each opens with what it holds.
-/
import Derived.Test.YtbchbmelofojkaaGreatDoorOwnL
import Derived.Test.YtbchbmelofojkaaGreatDoorMFiat
import Derived.Test.YtbchbmelofojkaaGreatDoorMSum
import Derived.Test.YtbchbmelofojkaaGreatDoorOwn
import Derived.Deep.RegionWith
import Derived.Deep.RegionHeld3
import Derived.BigQuiet
import Derived.Test.YtbchbmelofojkaaGreatDoorMem
import Derived.Deep.AppendLies
import Derived.Deep.DeepCutAuto
import Derived.Test.YtbchbmelofojkaaGreatDoorMle
/-
  Lists of lists of whatever lengths that a call itself makes and appends to: what append leaves, what stays; lists of whole numbers (places) in memory.
-/
namespace Go.Proofs.YtbchbmelofojkaaGreatDoor
open Go.RowKit
set_option linter.unusedVariables false

/-- Lists as the cells of a row. -/
def slv (n : Nat) (A : Nat → Option Addr) (L C : Nat → Nat) : List Value := (List.range n).map fun i => Value.slice (A i) (L i) (C i)
theorem slv_len (n : Nat) (A : Nat → Option Addr) (L C : Nat → Nat) : (slv n A L C).length = n := by simp [slv]
theorem slv_at (n : Nat) (A : Nat → Option Addr) (L C : Nat → Nat) (i : Nat) (h : i < n) : (slv n A L C)[i]? = some (.slice (A i) (L i) (C i)) := by simp [slv, h]
theorem slv_past (n : Nat) (A : Nat → Option Addr) (L C : Nat → Nat) (i : Nat) (h : n ≤ i) : (slv n A L C)[i]? = none := by simp [slv, h]
def putO (a : Nat → Option Addr) (k : Nat) (b : Option Addr) (i : Nat) : Option Addr := if i = k then b else a i
theorem slv_snoc (n : Nat) (A : Nat → Option Addr) (L C : Nat → Nat) (b : Option Addr) (l d : Nat) : slv n A L C ++ [.slice b l d] = slv (n + 1) (putO A n b) (putA L n l) (putA C n d) := by
  apply List.ext_getElem?
  intro j
  by_cases h : j < n
  · rw [List.getElem?_append_left (by rw [slv_len]; exact h), slv_at n A L C j h, slv_at _ _ _ _ j (by omega), putO, putA, putA, if_neg (by omega), if_neg (by omega), if_neg (by omega)]
  · rw [List.getElem?_append_right (by rw [slv_len]; omega), slv_len]
    by_cases h2 : j = n
    · subst h2
      rw [slv_at _ _ _ _ j (by omega), putO, putA, putA, if_pos rfl, if_pos rfl, if_pos rfl]
      simp
    · rw [slv_past _ _ _ _ j (by omega), List.getElem?_eq_none (by simp; omega)]
/-- v is a list of the call's own: n lists, list i of L i numbers F i, none of them in v's own block. -/
structure OwnV (w : World) (base : Nat) (v : Value) (n : Nat) (A : Nat → Option Addr) (L C : Nat → Nat) (F : Nat → Nat → Int) : Prop where
  own : w.ownsRow base 22 1 v n (slv n A L C)
  apart : ∀ i, i < n → ∀ a, A i = some a → v.ownBlock ≠ some a.block
  lt : ∀ i, i < n → ∀ a, A i = some a → a.block < w.heap.size
  row : ∀ i, i < n → PRow w (A i) (L i) (F i)
theorem OwnV.nil (w : World) (base : Nat) (A : Nat → Option Addr) (L C : Nat → Nat) (F : Nat → Nat → Int) : OwnV w base (.slice none 0 0) 0 A L C F :=
  ⟨World.ownsRow_nil w base 22 1, fun i hi => absurd hi (by omega), fun i hi => absurd hi (by omega), fun i hi => absurd hi (by omega)⟩
/-- A list that is laid with one list in it. -/
theorem OwnV.one (w : World) (base : Nat) (a : Option Addr) (l c : Nat) (f : Nat → Int) (hb : base ≤ w.heap.size) (hl : ∀ x, a = some x → x.block < w.heap.size) (hr : PRow w a l f) :
    OwnV (w.alloc (.cells #[.slice a l c] 22)) base (.slice (some ⟨w.heap.size, 0, none⟩) 1 1) 1 (fun _ => a) (fun _ => l) (fun _ => c) (fun _ => f) :=
  ⟨World.ownsRow_lit w #[.slice a l c] 1 hb (by unfold maxLen; omega) rfl, fun i hi x hx e => by have h1 := hl x hx; have h2 : w.heap.size = x.block := Option.some.inj e; omega, fun i hi x hx => by have := hl x hx; simp; omega, fun i hi => hr.kept ((Below.refl _ w).alloc (Nat.le_refl _) _)⟩
theorem OwnV.drew {w : World} {base : Nat} {v : Value} {n : Nat} {A : Nat → Option Addr} {L C : Nat → Nat} {F : Nat → Nat → Int} (h : OwnV w base v n A L C F) : OwnV w.drew base v n A L C F := ⟨h.own, h.apart, h.lt, h.row⟩
theorem OwnV.kept {w w' : World} {base : Nat} {v : Value} {n : Nat} {A : Nat → Option Addr} {L C : Nat → Nat} {F : Nat → Nat → Int} (h : OwnV w base v n A L C F) (hb : Below w.heap.size w w') : OwnV w' base v n A L C F := by
  refine ⟨?_, h.apart, fun i hi a e => Nat.lt_of_lt_of_le (h.lt i hi a e) hb.size, fun i hi => (h.row i hi).kept hb⟩
  refine ⟨h.own.1, ?_⟩
  rcases h.own.2 with h2 | ⟨g, cap, cur, hv, hg, hh, r⟩
  · exact .inl h2
  · have hlt : g < w.heap.size := (Array.getElem?_eq_some_iff.1 hh).1
    exact .inr ⟨g, cap, cur, hv, hg, (hb.block g hlt).trans hh, r⟩
theorem OwnV.far {w : World} {base : Nat} {v : Value} {n b : Nat} {A : Nat → Option Addr} {L C : Nat → Nat} {F : Nat → Nat → Int} (h : OwnV w base v n A L C F) (hb : w.heap.size ≤ b) : v.ownBlock ≠ some b := fun e => by have := (h.own.lt b e).2; omega
theorem OwnV.is {w : World} {base : Nat} {v : Value} {n : Nat} {A : Nat → Option Addr} {L C : Nat → Nat} {F : Nat → Nat → Int} (h : OwnV w base v n A L C F) : ∃ ao cap, v = .slice ao n cap ∧ n ≤ cap ∧ LRow w ao n A L C F := by
  have ho := h.own
  rcases ho.2 with ⟨rfl, rfl⟩ | ⟨g, cap, cur, rfl, _, _, hle, _⟩
  · exact ⟨none, 0, rfl, Nat.le_refl _, fun h0 => by omega⟩
  · refine ⟨some ⟨g, 0, none⟩, cap, rfl, hle, fun _ => ⟨g, 0, rfl, fun i hi => ⟨?_, h.row i hi⟩⟩⟩
    rw [Nat.zero_add, ho.cellAt i (by omega), slv_at n A L C i hi]
/-- One list more: what append left. -/
theorem OwnV.next {w w' : World} {base : Nat} {v : Value} {n : Nat} {A : Nat → Option Addr} {L C : Nat → Nat} {F : Nat → Nat → Int} {g cap l d : Nat} {ao : Option Addr} {f : Nat → Int} (h : OwnV w base v n A L C F)
    (ho : w'.ownsRow base 22 1 (.slice (some ⟨g, 0, none⟩) (n + 1) cap) (n + 1) (slv n A L C ++ [.slice ao l d])) (hg : w.grownBy w' v.ownBlock) (hat : v.ownBlock = some g ∨ g = w.heap.size)
    (hb : ∀ a, ao = some a → a.block < w.heap.size) (hne : ∀ a, ao = some a → v.ownBlock ≠ some a.block) (hr : PRow w ao l f) : OwnV w' base (.slice (some ⟨g, 0, none⟩) (n + 1) cap) (n + 1) (putO A n ao) (putA L n l) (putA C n d) (putF F n f) := by
  have far : ∀ k, k < w.heap.size → v.ownBlock ≠ some k → some g ≠ some k := fun k hk hk2 e => by
    rcases hat with e1 | e1
    · exact hk2 (e1.trans e)
    · have := Option.some.inj e; omega
  have krow : ∀ (ao : Option Addr) (l : Nat) (f : Nat → Int), (∀ a, ao = some a → a.block < w.heap.size) → (∀ a, ao = some a → v.ownBlock ≠ some a.block) → PRow w ao l f → PRow w' ao l f := fun ao l f hk hk2 hr h0 => by
    obtain ⟨b, off, e, hr2⟩ := hr h0
    exact ⟨b, off, e, fun j hj => (World.cell?_of_block (hg.block b (hk _ e) (fun e2 => hk2 _ e e2.symm))).trans (hr2 j hj)⟩
  refine ⟨by rw [← slv_snoc]; exact ho, fun i hi a ha => ?_, fun i hi a ha => ?_, fun i hi => ?_⟩
  · show some g ≠ _
    by_cases e : i = n
    · rw [putO, if_pos e] at ha; exact far _ (hb a ha) (hne a ha)
    · rw [putO, if_neg e] at ha; exact far _ (h.lt i (by omega) a ha) (h.apart i (by omega) a ha)
  · by_cases e : i = n
    · rw [putO, if_pos e] at ha; exact Nat.lt_of_lt_of_le (hb a ha) hg.size
    · rw [putO, if_neg e] at ha; exact Nat.lt_of_lt_of_le (h.lt i (by omega) a ha) hg.size
  · by_cases e : i = n
    · rw [putO, if_pos e, putA, if_pos e, putF, if_pos e]; exact krow ao l f hb hne hr
    · rw [putO, if_neg e, putA, if_neg e, putF, if_neg e]; exact krow _ _ _ (h.lt i (by omega)) (h.apart i (by omega)) (h.row i (by omega))
theorem OwnV.congr {w : World} {base : Nat} {v : Value} {n : Nat} {A A' : Nat → Option Addr} {L L' C C' : Nat → Nat} {F F' : Nat → Nat → Int} (h : OwnV w base v n A L C F) (eA : ∀ i, i < n → A i = A' i) (eL : ∀ i, i < n → L i = L' i) (eC : ∀ i, i < n → C i = C' i) (eF : ∀ i j, i < n → j < L i → F i j = F' i j) : OwnV w base v n A' L' C' F' := by
  have e : slv n A L C = slv n A' L' C' := by
    unfold slv
    exact List.map_congr_left fun j hj => by have hj := List.mem_range.1 hj; rw [eA j hj, eL j hj, eC j hj]
  refine ⟨e ▸ h.own, fun i hi a ha => h.apart i hi a ((eA i hi).trans ha), fun i hi a ha => h.lt i hi a ((eA i hi).trans ha), fun i hi => ?_⟩
  rw [← eA i hi, ← eL i hi]
  exact (h.row i hi).congr fun j hj => eF i j hi hj

/-- n whole numbers of 64 bits lie there, if any. -/
def IRowP (w : World) (ao : Option Addr) (n : Nat) (p : Nat → Int) : Prop := 0 < n → ∃ b off, ao = some ⟨b, off, none⟩ ∧ ∀ j, j < n → w.cell? ⟨b, off + j, none⟩ = some (.int .i64 (p j))
theorem IRowP.kept {w w' : World} {ao : Option Addr} {n : Nat} {p : Nat → Int} (h : IRowP w ao n p) (hb : Below w.heap.size w w') : IRowP w' ao n p := fun hn => by
  obtain ⟨b, off, e, hr⟩ := h hn
  exact ⟨b, off, e, fun j hj => (hb.cell (World.block_lt_of_cell? w _ (hr j hj))).trans (hr j hj)⟩
theorem IRowP.drew {w : World} {ao : Option Addr} {n : Nat} {p : Nat → Int} (h : IRowP w ao n p) : IRowP w.drew ao n p := h
theorem IRowP.congr {w : World} {ao : Option Addr} {n : Nat} {p q : Nat → Int} (h : IRowP w ao n p) (e : ∀ j, j < n → p j = q j) : IRowP w ao n q := fun hn => by
  obtain ⟨b, off, e1, hr⟩ := h hn
  exact ⟨b, off, e1, fun j hj => by rw [← e j hj]; exact hr j hj⟩
theorem IRowP.one (w : World) (x : Int) (t : TypeId) : IRowP (w.alloc (.cells #[.int .i64 x] t)) (some ⟨w.heap.size, 0, none⟩) 1 (fun _ => x) := fun _ => ⟨_, _, rfl, fun j hj => by
  rw [Nat.zero_add, World.cell?_alloc_new]
  match j, hj with
  | 0, _ => rfl⟩
/-- Lists of like length made and stored: one list more, whatever its length. -/
theorem Lays.more {w w' w1 : World} {n k N b : Nat} {a : Nat → Nat} {F : Nat → Nat → Int} {f : Nat → Int} (h : Lays w w' n k N a F) (hk : k < n) (hb1 : b < w1.heap.size) (hb : Below w'.heap.size w' w1) (hB : w'.heap.size ≤ b) (hr : Row w1 b 0 N f) (hf : Free w1 b 0 N) :
    Lays w (w1.setCell ⟨w.heap.size, k, none⟩ (.slice (some ⟨b, 0, none⟩) N N)) n (k + 1) N (putA a k b) (putF F k f) := by
  have h1 := h.kept hb
  have hlt := h.lt
  have hW : Wrote w.heap.size k 1 w1 (w1.setCell ⟨w.heap.size, k, none⟩ (.slice (some ⟨b, 0, none⟩) N N)) := (Wrote.refl _ _ _ _).store (Nat.le_refl _) (by omega) _
  refine ⟨h1.below.setCell (Nat.le_refl _) _, by rw [World.size_setCell]; exact h1.lt, fun i hi => ?_, fun i h2 hi => ?_, fun i hi => by rw [World.frozen?_setCell]; exact h1.free i hi, fun i hi => ?_, fun i j hij hj => ?_, fun i hi => ?_, fun i hi => ?_⟩
  · by_cases e : i = k
    · subst e
      rw [World.cell?_setCell_same _ _ _ (h1.todo i (Nat.le_refl _) hk), putA, if_pos rfl]
    · rw [hW.cell i (by omega), h1.cell i (by omega), putA, if_neg e]
  · rw [hW.cell i (by omega), h1.todo i (by omega) hi]
  · rw [World.size_setCell]
    by_cases e : i = k
    · rw [putA, if_pos e]; omega
    · rw [putA, if_neg e]; exact h1.high i (by omega)
  · rw [putA, if_neg (by omega)]
    by_cases e : j = k
    · rw [putA, if_pos e]
      have := (h.high i (by omega)).2
      omega
    · rw [putA, if_neg e]; exact h.apart i j hij (by omega)
  · by_cases e : i = k
    · rw [putA, if_pos e, putF, if_pos e]; exact hr.other hW (by omega)
    · rw [putA, if_neg e, putF, if_neg e]; exact (h1.row i (by omega)).other hW (by have := (h1.high i (by omega)).1; omega)
  · have hfr : ∀ c, Free w1 c 0 N → Free (w1.setCell ⟨w.heap.size, k, none⟩ (.slice (some ⟨b, 0, none⟩) N N)) c 0 N := fun c hc j hj => by rw [World.frozen?_setCell]; exact hc j hj
    by_cases e : i = k
    · rw [putA, if_pos e]; exact hfr _ hf
    · rw [putA, if_neg e]; exact hfr _ (h1.may i (by omega))

end Go.Proofs.YtbchbmelofojkaaGreatDoor

/-
  Plain: trees of pairs: the root of a table, the path of a place, what one comes to by a path; from the root down, and level by level; no program in it.
-/
namespace Go.Proofs.YtbchbmelofojkaaGreatDoor
open Go.RowKit
set_option linter.unusedVariables false

/-- What Pair answers. -/
def prQ (a b : Int) : Int := ofK (pairK a b)
theorem prQ_rng (a b : Int) : 0 ≤ prQ a b ∧ prQ a b ≤ 2305843009213693950 := ofK_rng _
theorem prQ_nrm_l (a b : Int) : prQ (nrm a) b = prQ a b := by unfold prQ; rw [pairK_congr (kk_nrm a) rfl]
theorem prQ_nrm_r (a b : Int) : prQ a (nrm b) = prQ a b := by unfold prQ; rw [pairK_congr rfl (kk_nrm b)]
/-- The root of 2^n numbers. -/
def rootQ : Nat → (Nat → Int) → Int
  | 0, f => prQ (f 0) 0
  | n + 1, f => prQ (rootQ n f) (rootQ n fun j => f (2 ^ n + j))
theorem rootQ_rng (n : Nat) (f : Nat → Int) : 0 ≤ rootQ n f ∧ rootQ n f ≤ 2305843009213693950 := by
  cases n with
  | zero => exact prQ_rng _ _
  | succ n => exact prQ_rng _ _
theorem rootQ_congr (n : Nat) : ∀ {f g : Nat → Int}, (∀ j, j < 2 ^ n → f j = g j) → rootQ n f = rootQ n g := by
  induction n with
  | zero => intro f g h; rw [rootQ, rootQ, h 0 (by omega)]
  | succ n ih =>
    intro f g h
    rw [rootQ, rootQ, ih fun j hj => h j (by rw [two_pow_succ]; omega), ih fun j hj => h (2 ^ n + j) (by rw [two_pow_succ]; omega)]
theorem half_one {i z : Nat} (h : ¬ i < z) (hi : i < z + z) : i / z = 1 := Nat.div_eq_of_lt_le (by omega) (by omega)
/-- Number j of the path of place i, from the lowest on. -/
def pathQ : Nat → (Nat → Int) → Nat → Nat → Int
  | 0, _, _, _ => 0
  | n + 1, f, i, j => if i < 2 ^ n then (if j < n then pathQ n f i j else rootQ n fun j => f (2 ^ n + j)) else (if j < n then pathQ n (fun j => f (2 ^ n + j)) (i - 2 ^ n) j else rootQ n f)
theorem pathQ_rng (n : Nat) : ∀ (f : Nat → Int) (i j : Nat), 0 ≤ pathQ n f i j ∧ pathQ n f i j ≤ 2305843009213693950 := by
  induction n with
  | zero => intro f i j; rw [pathQ]; omega
  | succ n ih =>
    intro f i j
    rw [pathQ]
    split
    · split
      · exact ih _ _ _
      · exact rootQ_rng _ _
    · split
      · exact ih _ _ _
      · exact rootQ_rng _ _
/-- What one comes to from a leaf at place i by n numbers of a path. -/
def climbQ : Nat → Nat → Int → (Nat → Int) → Int
  | 0, _, leaf, _ => prQ leaf 0
  | n + 1, i, leaf, p => if i < 2 ^ n then prQ (climbQ n i leaf p) (p n) else prQ (p n) (climbQ n (i - 2 ^ n) leaf p)
theorem climbQ_rng (n i : Nat) (leaf : Int) (p : Nat → Int) : 0 ≤ climbQ n i leaf p ∧ climbQ n i leaf p ≤ 2305843009213693950 := by
  cases n with
  | zero => exact prQ_rng _ _
  | succ n => rw [climbQ]; split <;> exact prQ_rng _ _
theorem climbQ_congr (n : Nat) (leaf : Int) {p q : Nat → Int} : ∀ i, (∀ j, j < n → p j = q j) → climbQ n i leaf p = climbQ n i leaf q := by
  induction n with
  | zero => exact fun _ _ => rfl
  | succ n ih =>
    intro i h
    rw [climbQ, climbQ, ih i fun j hj => h j (by omega), ih (i - 2 ^ n) fun j hj => h j (by omega), h n (by omega)]
/-- MERKLE: by its path one comes from each place to the root. -/
theorem climb_path (n : Nat) : ∀ (f : Nat → Int) (i : Nat), i < 2 ^ n → climbQ n i (f i) (pathQ n f i) = rootQ n f := by
  induction n with
  | zero => intro f i hi; have : i = 0 := by omega
            subst this; rfl
  | succ n ih =>
    intro f i hi
    rw [two_pow_succ] at hi
    rw [climbQ, rootQ]
    by_cases h : i < 2 ^ n
    · rw [if_pos h, climbQ_congr n (f i) i (q := pathQ n f i) fun j hj => by rw [pathQ, if_pos h, if_pos hj], ih f i h]
      rw [pathQ, if_pos h, if_neg (Nat.lt_irrefl n)]
    · rw [if_neg h]
      rw [climbQ_congr n (f i) (i - 2 ^ n) (q := pathQ n (fun j => f (2 ^ n + j)) (i - 2 ^ n)) fun j hj => by rw [pathQ, if_neg h, if_pos hj]]
      have := ih (fun j => f (2 ^ n + j)) (i - 2 ^ n) (by omega)
      rw [show 2 ^ n + (i - 2 ^ n) = i from by omega] at this
      rw [this, pathQ, if_neg h, if_neg (Nat.lt_irrefl n)]

/-- Level k of the tree, from the lowest on. -/
def levQ (f : Nat → Int) : Nat → Nat → Int
  | 0, j => prQ (f j) 0
  | k + 1, j => prQ (levQ f k (2 * j)) (levQ f k (2 * j + 1))
theorem levQ_rng (f : Nat → Int) (k j : Nat) : 0 ≤ levQ f k j ∧ levQ f k j ≤ 2305843009213693950 := by
  cases k with
  | zero => exact prQ_rng _ _
  | succ k => exact prQ_rng _ _
theorem lev_root (f : Nat → Int) (k : Nat) : ∀ j, levQ f k j = rootQ k fun i => f (2 ^ k * j + i) := by
  induction k with
  | zero => intro j; rw [levQ, rootQ]; simp
  | succ k ih =>
    intro j
    rw [levQ, rootQ, ih, ih]
    congr 1
    · refine rootQ_congr k fun i _ => ?_
      rw [Nat.pow_succ, Nat.mul_assoc]
    · refine rootQ_congr k fun i _ => ?_
      rw [Nat.pow_succ, Nat.mul_assoc, Nat.mul_add, Nat.mul_one, Nat.add_assoc]
theorem lev_top (f : Nat → Int) (n : Nat) : levQ f n 0 = rootQ n f := by
  rw [lev_root]
  exact rootQ_congr n fun i _ => by rw [Nat.mul_zero, Nat.zero_add]
theorem levQ_shift (f : Nat → Int) (n k : Nat) (hk : k ≤ n) : ∀ j, levQ (fun i => f (2 ^ n + i)) k j = levQ f k (2 ^ (n - k) + j) := by
  induction k with
  | zero => intro j; rfl
  | succ k ih =>
    intro j
    rw [levQ, levQ, ih (by omega), ih (by omega)]
    have e : 2 ^ (n - k) = 2 * 2 ^ (n - (k + 1)) := by rw [show n - k = (n - (k + 1)) + 1 from by omega, two_pow_succ]; omega
    rw [e, Nat.mul_add, Nat.add_assoc]
/-- The place beside. -/
def sib (m : Nat) : Nat := if m % 2 = 0 then m + 1 else m - 1
theorem path_lev (n : Nat) : ∀ (f : Nat → Int) (i j : Nat), i < 2 ^ n → j < n → pathQ n f i j = levQ f j (sib (i / 2 ^ j)) := by
  induction n with
  | zero => intro f i j _ hj; omega
  | succ n ih =>
    intro f i j hi hj
    rw [two_pow_succ] at hi
    have hpos : 0 < 2 ^ n := Nat.two_pow_pos n
    rw [pathQ]
    by_cases h : i < 2 ^ n
    · rw [if_pos h]
      by_cases hjn : j < n
      · rw [if_pos hjn]; exact ih f i j h hjn
      · have e : j = n := by omega
        subst e
        rw [if_neg hjn, Nat.div_eq_of_lt h, sib, if_pos rfl, lev_root]
        exact rootQ_congr j fun t _ => by rw [Nat.mul_one]
    · rw [if_neg h]
      have hd : i / 2 ^ n = 1 := half_one h hi
      by_cases hjn : j < n
      · rw [if_pos hjn, ih _ (i - 2 ^ n) j (by omega) hjn, levQ_shift f n j (by omega)]
        congr 1
        have e1 : 2 ^ n = 2 ^ j * 2 ^ (n - j) := by rw [← Nat.pow_add]; congr 1; omega
        have e2 : i / 2 ^ j = (i - 2 ^ n) / 2 ^ j + 2 ^ (n - j) := by
          have : i = (i - 2 ^ n) + 2 ^ j * 2 ^ (n - j) := by rw [← e1]; omega
          rw [this, Nat.add_mul_div_left _ _ (Nat.two_pow_pos j), ← e1]
          congr 2
          omega
        have e3 : 2 ^ (n - j) = 2 * 2 ^ (n - j - 1) := by rw [show n - j = (n - j - 1) + 1 from by omega, two_pow_succ]; simp; omega
        rw [e2]
        generalize (i - 2 ^ n) / 2 ^ j = m
        generalize 2 ^ (n - j - 1) = z at e3
        rw [e3]
        unfold sib
        by_cases hm : m % 2 = 0
        · rw [if_pos hm, if_pos (by omega)]; omega
        · rw [if_neg hm, if_neg (by omega)]; omega
      · have e : j = n := by omega
        subst e
        rw [if_neg hjn, hd, sib, if_neg (by omega), lev_root]
        exact rootQ_congr j fun t _ => by rw [Nat.sub_self, Nat.mul_zero, Nat.zero_add]
/-- Up from a leaf, step by step, by the bits of its place. -/
def upC (i : Nat) (leaf : Int) (p : Nat → Int) : Nat → Int
  | 0 => prQ leaf 0
  | k + 1 => if i / 2 ^ k % 2 = 0 then prQ (upC i leaf p k) (p k) else prQ (p k) (upC i leaf p k)
theorem upC_rng (i : Nat) (leaf : Int) (p : Nat → Int) (k : Nat) : 0 ≤ upC i leaf p k ∧ upC i leaf p k ≤ 2305843009213693950 := by
  cases k with
  | zero => exact prQ_rng _ _
  | succ k => rw [upC]; split <;> exact prQ_rng _ _
theorem upC_low (leaf : Int) (p : Nat → Int) (n i : Nat) (h : 2 ^ n ≤ i) (k : Nat) : k ≤ n → upC (i - 2 ^ n) leaf p k = upC i leaf p k := by
  induction k with
  | zero => exact fun _ => rfl
  | succ k ih =>
    intro hk
    rw [upC, upC, ih (by omega)]
    have e1 : 2 ^ n = 2 ^ k * 2 ^ (n - k) := by rw [← Nat.pow_add]; congr 1; omega
    have e2 : i / 2 ^ k = (i - 2 ^ n) / 2 ^ k + 2 ^ (n - k) := by
      have : i = (i - 2 ^ n) + 2 ^ k * 2 ^ (n - k) := by rw [← e1]; omega
      rw [this, Nat.add_mul_div_left _ _ (Nat.two_pow_pos k), ← e1]
      congr 2
      omega
    have e3 : 2 ^ (n - k) = 2 * 2 ^ (n - k - 1) := by rw [show n - k = (n - k - 1) + 1 from by omega, two_pow_succ]; simp; omega
    rw [e2, e3, Nat.add_mul_mod_self_left]
theorem climb_up (leaf : Int) (p : Nat → Int) (n : Nat) : ∀ i, i < 2 ^ n → climbQ n i leaf p = upC i leaf p n := by
  induction n with
  | zero => exact fun _ _ => rfl
  | succ n ih =>
    intro i hi
    rw [two_pow_succ] at hi
    rw [climbQ, upC]
    by_cases h : i < 2 ^ n
    · rw [if_pos h, Nat.div_eq_of_lt h, if_pos rfl, ih i h]
    · have hd : i / 2 ^ n = 1 := half_one h hi
      rw [if_neg h, hd, if_neg (by omega), ih (i - 2 ^ n) (by omega), upC_low leaf p n i (by omega) n (Nat.le_refl n)]

end Go.Proofs.YtbchbmelofojkaaGreatDoor

/-
  Openings, as they are told, in memory: roots, value, looks with their pairs and paths; what stays; plain: what the right opening of a table is, when looks hold; no program in it.
-/
namespace Go.Proofs.YtbchbmelofojkaaGreatDoor
open Go.RowKit
set_option linter.unusedVariables false

/-- n pairs of numbers: pair k has F k 0 and F k 1. -/
def QRow (w : World) (ao : Option Addr) (n : Nat) (F : Nat → Nat → Int) : Prop := 0 < n → ∃ b off, ao = some ⟨b, off, none⟩ ∧ ∀ k, k < n → w.cell? ⟨b, off + 2 * k, none⟩ = some (.int .u64 (F k 0)) ∧ w.cell? ⟨b, off + 2 * k + 1, none⟩ = some (.int .u64 (F k 1))
theorem QRow.kept {w w' : World} {ao : Option Addr} {n : Nat} {F : Nat → Nat → Int} (h : QRow w ao n F) (hb : Below w.heap.size w w') : QRow w' ao n F := fun hn => by
  obtain ⟨b, off, e, hr⟩ := h hn
  exact ⟨b, off, e, fun k hk => ⟨(hb.cell (World.block_lt_of_cell? w _ (hr k hk).1)).trans (hr k hk).1, (hb.cell (World.block_lt_of_cell? w _ (hr k hk).2)).trans (hr k hk).2⟩⟩
/-- n pairs of lists: list e of pair k has L k e numbers. -/
def TRow (w : World) (ao : Option Addr) (n : Nat) (A : Nat → Nat → Option Addr) (L C : Nat → Nat → Nat) (F : Nat → Nat → Nat → Int) : Prop := 0 < n → ∃ b off, ao = some ⟨b, off, none⟩ ∧ ∀ k, k < n →
  w.cell? ⟨b, off + 2 * k, none⟩ = some (.slice (A k 0) (L k 0) (C k 0)) ∧ w.cell? ⟨b, off + 2 * k + 1, none⟩ = some (.slice (A k 1) (L k 1) (C k 1)) ∧ PRow w (A k 0) (L k 0) (F k 0) ∧ PRow w (A k 1) (L k 1) (F k 1)
theorem TRow.kept {w w' : World} {ao : Option Addr} {n : Nat} {A : Nat → Nat → Option Addr} {L C : Nat → Nat → Nat} {F : Nat → Nat → Nat → Int} (h : TRow w ao n A L C F) (hb : Below w.heap.size w w') : TRow w' ao n A L C F := fun hn => by
  obtain ⟨b, off, e, hr⟩ := h hn
  refine ⟨b, off, e, fun k hk => ?_⟩
  obtain ⟨h1, h2, h3, h4⟩ := hr k hk
  exact ⟨(hb.cell (World.block_lt_of_cell? w _ h1)).trans h1, (hb.cell (World.block_lt_of_cell? w _ h2)).trans h2, h3.kept hb, h4.kept hb⟩

/-- The looks of an opening: n of them; look i has np i pairs and nt i pairs of paths. -/
structure OQ where
  n : Nat
  np : Nat → Nat
  nt : Nat → Nat
  P : Nat → Nat → Nat → Int
  tl : Nat → Nat → Nat → Nat
  T : Nat → Nat → Nat → Nat → Int
/-- Where they lie. -/
structure OM where
  pa : Nat → Option Addr
  ta : Nat → Option Addr
  pc : Nat → Nat
  tc : Nat → Nat
  A : Nat → Nat → Nat → Option Addr
  C : Nat → Nat → Nat → Nat
def OpRow (w : World) (ao : Option Addr) (o : OQ) (m : OM) : Prop := 0 < o.n → ∃ b off, ao = some ⟨b, off, none⟩ ∧ ∀ i, i < o.n →
  w.cell? ⟨b, off + 2 * i, none⟩ = some (.slice (m.pa i) (o.np i) (m.pc i)) ∧ w.cell? ⟨b, off + 2 * i + 1, none⟩ = some (.slice (m.ta i) (o.nt i) (m.tc i)) ∧
  QRow w (m.pa i) (o.np i) (o.P i) ∧ TRow w (m.ta i) (o.nt i) (m.A i) (o.tl i) (m.C i) (o.T i)
theorem OpRow.kept {w w' : World} {ao : Option Addr} {o : OQ} {m : OM} (h : OpRow w ao o m) (hb : Below w.heap.size w w') : OpRow w' ao o m := fun hn => by
  obtain ⟨b, off, e, hr⟩ := h hn
  refine ⟨b, off, e, fun k hk => ?_⟩
  obtain ⟨h1, h2, h3, h4⟩ := hr k hk
  exact ⟨(hb.cell (World.block_lt_of_cell? w _ h1)).trans h1, (hb.cell (World.block_lt_of_cell? w _ h2)).trans h2, h3.kept hb, h4.kept hb⟩
theorem OpRow.drew {w : World} {ao : Option Addr} {o : OQ} {m : OM} (h : OpRow w ao o m) : OpRow w.drew ao o m := h
/-- Its numbers are of 64 bits. -/
def OQ.nums (o : OQ) : Prop := ∀ i k e, 0 ≤ o.P i k e ∧ o.P i k e ≤ 18446744073709551615 ∧ Nums (o.T i k e)
/-- It has n pairs and paths a look, of the right lengths. -/
def OQ.form (o : OQ) (n : Nat) : Prop := ∀ i, i < o.n → o.np i = n ∧ o.nt i = n ∧ ∀ k, k < n → o.tl i k 0 = n - k ∧ o.tl i k 1 = n - k

/-- Half of a table of n variables that was folded k times. -/
def hfQ (n k : Nat) : Nat := 2 ^ (n - 1 - k)
theorem hfQ_pos (n k : Nat) : 1 ≤ hfQ n k := Nat.one_le_two_pow
theorem hfQ_two {n k : Nat} (h : k + 1 < n) : hfQ n k = 2 * hfQ n (k + 1) := by
  unfold hfQ
  rw [show n - 1 - k = (n - 1 - (k + 1)) + 1 from by omega, Nat.pow_succ]; omega
theorem hfQ_all {n k : Nat} (h : k < n) : 2 * hfQ n k = 2 ^ (n - k) := by
  unfold hfQ
  rw [show n - k = (n - 1 - k) + 1 from by omega, Nat.pow_succ]; omega
theorem hfQ_le {n k : Nat} (h : n ≤ 8) : hfQ n k ≤ 256 := by
  unfold hfQ
  exact Nat.pow_le_pow_right (j := 8) (by omega) (by omega)
/-- What a look must be folded to, behind its pair k, from place p on: the value, behind the last pair. -/
def nxQ (n : Nat) (P : Nat → Nat → Int) (v : Int) (p k : Nat) : Int := if k + 1 = n then v else P (k + 1) (p % hfQ n k / hfQ n (k + 1))
/-- What a pair is folded to. -/
def btQ (P : Nat → Int) (x : Int) : Int := addQ (P 0) (mulQ x (subQ (P 1) (P 0)))
/-- Pair k of a look of place p holds. -/
def fitB (n : Nat) (rt : Nat → Int) (g : Nat → Int) (v : Int) (P : Nat → Nat → Int) (T : Nat → Nat → Nat → Int) (p k : Nat) : Bool :=
  climbQ (n - k) (p % hfQ n k) (P k 0) (T k 0) == nrm (rt k) && climbQ (n - k) (p % hfQ n k + hfQ n k) (P k 1) (T k 1) == nrm (rt k) && btQ (P k) (g k) == nrm (nxQ n P v p k)
/-- All of the first n. -/
def allB (n : Nat) (f : Nat → Bool) : Bool := (List.range n).all f
theorem allB_succ (n : Nat) (f : Nat → Bool) : allB (n + 1) f = (allB n f && f n) := by simp [allB, List.range_succ]
theorem allB_zero (f : Nat → Bool) : allB 0 f = true := rfl
theorem allB_iff {n : Nat} {f : Nat → Bool} : allB n f = true ↔ ∀ k, k < n → f k = true := by simp [allB]
theorem allB_no {n k : Nat} {f : Nat → Bool} (hk : k < n) (h : f k = false) : allB n f = false := by
  cases e : allB n f
  · rfl
  · have := allB_iff.1 e k hk
    rw [h] at this; cases this
theorem allB_congr {n : Nat} {f g : Nat → Bool} (h : ∀ k, k < n → f k = g k) : allB n f = allB n g := by
  induction n with
  | zero => rfl
  | succ n ih => rw [allB_succ, allB_succ, ih fun k hk => h k (by omega), h n (by omega)]
/-- The root of the table, and those of what it is folded to. -/
def rtQ (root : Int) (R : Nat → Int) (k : Nat) : Int := if k = 0 then root else R (k - 1)
/-- All holds. -/
def lookB (n : Nat) (root : Int) (g : Nat → Int) (m : Nat) (pl : Nat → Nat) (R : Nat → Int) (v : Int) (o : OQ) : Bool :=
  prQ v 0 == nrm (R (n - 1)) && allB m fun i => allB n fun k => fitB n (rtQ root R) g v (o.P i) (o.T i) (pl i) k

/-- The table, folded k times. -/
def fdQ (f g : Nat → Int) (n : Nat) : Nat → Nat → Int
  | 0, j => f j
  | k + 1, j => fldF (fdQ f g n k) (hfQ n k) (g k) j
theorem fdQ_nums (f g : Nat → Int) (n k : Nat) (hf : Nums f) : Nums (fdQ f g n k) := by
  cases k with
  | zero => exact hf
  | succ k => exact Nums_fld _ _ _
theorem fdQ_folded (f g : Nat → Int) (n : Nat) (hf : Nums f) (k : Nat) : k ≤ n → Folded f g n k (2 ^ (n - k)) (fdQ f g n k) := by
  induction k with
  | zero => intro _; exact Folded.start rfl hf
  | succ k ih =>
    intro hk
    have h := ih (by omega)
    rw [← hfQ_all (by omega)] at h
    have h2 := h.next (by omega) (rfl : g k = g k)
    have e : hfQ n k = 2 ^ (n - (k + 1)) := by unfold hfQ; congr 1; omega
    rw [e] at h2
    show Folded f g n (k + 1) (2 ^ (n - (k + 1))) (fldF (fdQ f g n k) (hfQ n k) (g k))
    rw [e]
    exact h2
/-- Its value at the point. -/
theorem fdQ_value (f g : Nat → Int) (n : Nat) (hf : Nums f) (hn : 1 ≤ n) : fdQ f g n n 0 = ofK (evS (fun j => kk (f j)) (fun j => kk (g j)) n) := by
  have h := (fdQ_folded f g n hf n (Nat.le_refl n)).done
  rw [← h]
  obtain ⟨m, rfl⟩ : ∃ m, n = m + 1 := ⟨n - 1, by omega⟩
  show fldF _ _ _ 0 = nrm (fldF _ _ _ 0)
  exact (nrm_in (addQ_rng _ _).1 (addQ_rng _ _).2).symm
/-- The right opening's roots, pairs and paths. -/
def oR (f g : Nat → Int) (n i : Nat) : Int := rootQ (n - 1 - i) (fdQ f g n (i + 1))
def oP (f g : Nat → Int) (n p k e : Nat) : Int := nrm (fdQ f g n k (p % hfQ n k + e * hfQ n k))
def oT (f g : Nat → Int) (n p k e j : Nat) : Int := pathQ (n - k) (fdQ f g n k) (p % hfQ n k + e * hfQ n k) j
def rightO (f g : Nat → Int) (n m : Nat) (pl : Nat → Nat) : OQ := ⟨m, fun _ => n, fun _ => n, fun i => oP f g n (pl i), fun _ k _ => n - k, fun i => oT f g n (pl i)⟩

theorem climbQ_nrm (n : Nat) (leaf : Int) (p : Nat → Int) : ∀ i, climbQ n i (nrm leaf) p = climbQ n i leaf p := by
  induction n with
  | zero => intro i; exact prQ_nrm_l _ _
  | succ n ih => intro i; rw [climbQ, climbQ, ih, ih]
theorem mod_half {n k p : Nat} (h : k + 1 < n) : p % hfQ n k = p % hfQ n (k + 1) + p % hfQ n k / hfQ n (k + 1) * hfQ n (k + 1) ∧ p % hfQ n k / hfQ n (k + 1) < 2 := by
  have e := hfQ_two h
  have hp := hfQ_pos n (k + 1)
  have hlt : p % hfQ n k < hfQ n k := Nat.mod_lt _ (hfQ_pos n k)
  generalize hfQ n (k + 1) = z at *
  generalize hfQ n k = y at *
  subst e
  refine ⟨?_, by rw [Nat.div_lt_iff_lt_mul hp]; exact hlt⟩
  have h1 := Nat.mod_add_div (p % (2 * z)) z
  rw [Nat.mod_mul_left_mod] at h1
  rw [Nat.mul_comm (p % (2 * z) / z) z]
  exact h1.symm
theorem oP_lt {n k p : Nat} (hk : k < n) (e : Nat) (he : e < 2) : p % hfQ n k + e * hfQ n k < 2 ^ (n - k) := by
  rw [← hfQ_all hk]
  have hlt : p % hfQ n k < hfQ n k := Nat.mod_lt _ (hfQ_pos n k)
  match e, he with
  | 0, _ => omega
  | 1, _ => omega
theorem btQ_right (f g : Nat → Int) (n p k : Nat) : btQ (oP f g n p k) (g k) = fdQ f g n (k + 1) (p % hfQ n k) := by
  show addQ (nrm (fdQ f g n k (p % hfQ n k + 0 * hfQ n k))) (mulQ (g k) (subQ (nrm (fdQ f g n k (p % hfQ n k + 1 * hfQ n k))) (nrm (fdQ f g n k (p % hfQ n k + 0 * hfQ n k))))) = addQ (fdQ f g n k (p % hfQ n k)) (mulQ (g k) (subQ (fdQ f g n k (hfQ n k + p % hfQ n k)) (fdQ f g n k (p % hfQ n k))))
  rw [Nat.zero_mul, Nat.add_zero, Nat.one_mul, Nat.add_comm (p % hfQ n k) (hfQ n k)]
  generalize fdQ f g n k (p % hfQ n k) = a
  generalize fdQ f g n k (hfQ n k + p % hfQ n k) = b
  have e1 : subQ (nrm b) (nrm a) = subQ b a := eq_ofK (subQ_rng _ _).1 (subQ_rng _ _).2 (by rw [kk_subQ, kk_nrm, kk_nrm]) |>.trans (eq_ofK (subQ_rng _ _).1 (subQ_rng _ _).2 (by rw [kk_subQ])).symm
  rw [e1]
  exact (eq_ofK (addQ_rng _ _).1 (addQ_rng _ _).2 (by rw [kk_addQ, kk_nrm])).trans (eq_ofK (addQ_rng _ _).1 (addQ_rng _ _).2 (by rw [kk_addQ])).symm
theorem fdQ_rng (f g : Nat → Int) (n k j : Nat) : 0 ≤ fdQ f g n (k + 1) j ∧ fdQ f g n (k + 1) j ≤ 2305843009213693950 := addQ_rng _ _
/-- What is opened holds. -/
theorem opn_fits (f g : Nat → Int) (n p k : Nat) (hk : k < n) : fitB n (rtQ (rootQ n f) (oR f g n)) g (fdQ f g n n 0) (oP f g n p) (oT f g n p) p k = true := by
  have hroot : ∀ e, e < 2 → climbQ (n - k) (p % hfQ n k + e * hfQ n k) (oP f g n p k e) (oT f g n p k e) = nrm (rtQ (rootQ n f) (oR f g n) k) := fun e he => by
    have h1 : oT f g n p k e = pathQ (n - k) (fdQ f g n k) (p % hfQ n k + e * hfQ n k) := rfl
    rw [oP, climbQ_nrm, h1, climb_path (n - k) (fdQ f g n k) _ (oP_lt hk e he)]
    by_cases h0 : k = 0
    · subst h0
      rw [rtQ, if_pos rfl, nrm_in (rootQ_rng _ _).1 (rootQ_rng _ _).2]
      rfl
    · rw [rtQ, if_neg h0, oR, show n - 1 - (k - 1) = n - k from by omega, show k - 1 + 1 = k from by omega, nrm_in (rootQ_rng _ _).1 (rootQ_rng _ _).2]
  have r0 := hroot 0 (by omega)
  have r1 := hroot 1 (by omega)
  rw [Nat.zero_mul, Nat.add_zero] at r0
  rw [Nat.one_mul] at r1
  unfold fitB
  rw [r0, r1, btQ_right]
  have hn : fdQ f g n (k + 1) (p % hfQ n k) = nrm (nxQ n (oP f g n p) (fdQ f g n n 0) p k) := by
    unfold nxQ
    by_cases hl : k + 1 = n
    · rw [if_pos hl]
      have : hfQ n k = 1 := by unfold hfQ; rw [show n - 1 - k = 0 from by omega]
      rw [this, Nat.mod_one]
      subst hl
      exact (nrm_in (fdQ_rng f g _ k 0).1 (fdQ_rng f g _ k 0).2).symm
    · rw [if_neg hl, oP, ← (mod_half (by omega)).1, nrm_in (nrm_rng _).1 (nrm_rng _).2, nrm_in (fdQ_rng f g _ k _).1 (fdQ_rng f g _ k _).2]
  rw [← hn]
  simp
theorem right_looks (f g : Nat → Int) (n m : Nat) (pl : Nat → Nat) (hn : 1 ≤ n) : lookB n (rootQ n f) g m pl (oR f g n) (fdQ f g n n 0) (rightO f g n m pl) = true := by
  unfold lookB
  have e : oR f g n (n - 1) = prQ (fdQ f g n n 0) 0 := by
    rw [oR, show n - 1 - (n - 1) = 0 from by omega, show n - 1 + 1 = n from by omega]; rfl
  rw [e, nrm_in (prQ_rng _ _).1 (prQ_rng _ _).2]
  have : (allB m fun i => allB n fun k => fitB n (rtQ (rootQ n f) (oR f g n)) g (fdQ f g n n 0) ((rightO f g n m pl).P i) ((rightO f g n m pl).T i) (pl i) k) = true := allB_iff.2 fun i _ => allB_iff.2 fun k hk => opn_fits f g n (pl i) k hk
  rw [this]
  simp
theorem rightO_form (f g : Nat → Int) (n m : Nat) (pl : Nat → Nat) : (rightO f g n m pl).form n := fun i _ => ⟨rfl, rfl, fun k _ => ⟨rfl, rfl⟩⟩
theorem rightO_nums (f g : Nat → Int) (n m : Nat) (pl : Nat → Nat) : (rightO f g n m pl).nums := fun i k e => by
  have h1 : 0 ≤ oP f g n (pl i) k e ∧ oP f g n (pl i) k e ≤ 2305843009213693950 := nrm_rng _
  refine ⟨h1.1, ?_, fun j => ?_⟩
  · have := h1.2
    show oP f g n (pl i) k e ≤ _
    omega
  · have := pathQ_rng (n - k) (fdQ f g n k) (pl i % hfQ n k + e * hfQ n k) j
    show 0 ≤ pathQ _ _ _ _ ∧ pathQ _ _ _ _ ≤ _
    omega

end Go.Proofs.YtbchbmelofojkaaGreatDoor

/-
  Package tree's leafRoot and Climb, for every input; they write nothing that was there.
-/
namespace Go.Proofs.YtbchbmelofojkaaGreatDoor
open Go.RowKit
set_option linter.unusedVariables false
attribute [local go_sem ↓] Go.wp_at_zero Go.wp_at_succ

theorem pow_c8 {n : Nat} (h : n ≤ 8) : 2 ^ n ≤ 256 := Nat.pow_le_pow_right (j := 8) (by omega) h
theorem shl_c8 {k : Nat} (hk : k ≤ 8) : wrap64 ((2 : Int) ^ k) = ((2 ^ k : Nat) : Int) := by
  have h : 2 ^ k ≤ 256 := pow_c8 hk
  rw [show ((2 : Int) ^ k) = ((2 ^ k : Nat) : Int) from by simp]
  generalize 2 ^ k = M at h
  exact IntWalk.wrap64_in _ (by omega)
theorem ret_u64_err {a b x : Int} (h : a = b) : Ending.returned (.tuple #[.int .u64 a, .int .i64 x]) = .returned (.tuple #[.int .u64 b, .int .i64 x]) := by rw [h]
theorem tpair (a b : Int) (W : World) (h0 : 0 ≤ a) (h1 : a ≤ 18446744073709551615) (g0 : 0 ≤ b) (g1 : b ≤ 18446744073709551615) : Calls Tryz.prog 120 #[.int .u64 a, .int .u64 b] W fun e w' => e = .returned (.int .u64 (prQ a b)) ∧ Below W.heap.size W w' := pair_any a b W h0 h1 g0 g1
set_option maxHeartbeats 1000000 in
theorem leafRoot_any (x : Int) (w : World) (h0 : 0 ≤ x) (h1 : x ≤ 18446744073709551615) :
    Calls Tryz.prog 99 #[.int .u64 x] w fun e w' => e = .returned (.int .u64 (prQ x 0)) ∧ Below w.heap.size w w' := by
  have HP := hid (tpair x 0 w h0 h1 (by omega) (by omega))
  go_enter Tryz.func99, Tryz.ntmps99
  go_wp2_with (go_at_call 120; refine (HP.out).mono ?_; rintro e w1 ⟨rfl, hb⟩; have HB := hid hb; clear hb)
  go_ret
  exact ⟨rfl, HB.out⟩

theorem low_and (m : Nat) (h : m ≤ 100000) : bits .and .i64 (m : Int) 1 = ((m % 2 : Nat) : Int) := by
  have h1 : (BitVec.ofInt 64 (m : Int)).toNat = m := by
    rw [BitVec.ofInt_natCast, BitVec.toNat_ofNat]; exact Nat.mod_eq_of_lt (by omega)
  have h2 : (BitVec.ofInt 64 (1 : Int)).toNat = 1 := rfl
  have e : m &&& 1 = m % 2 := Nat.and_two_pow_sub_one_eq_mod m 1
  show IntKind.i64.wrap ((BitVec.ofInt 64 (m : Int) &&& BitVec.ofInt 64 (1 : Int)).toNat : Int) = _
  rw [BitVec.toNat_and, h1, h2, e]
  exact IntWalk.i64_in _ (by omega)


set_option maxHeartbeats 4000000 in
set_option maxRecDepth 100000 in
theorem tclimb_ok (n cap i : Nat) (ao : Option Addr) (leaf : Int) (p : Nat → Int) (w : World) (hn : n ≤ 8) (hr : PRow w ao n p) (hv : Nums p) (hi : i < 2 ^ n) (l0 : 0 ≤ leaf) (l1 : leaf ≤ 18446744073709551615) :
    Calls Tryz.prog 101 #[.int .i64 (i : Int), .int .u64 leaf, .slice ao n cap] w fun e w' => e = .returned (.tuple #[.int .u64 (climbQ n i leaf p), .int .i64 0]) ∧ Below w.heap.size w w' := by
  have HL := hid (leafRoot_any leaf w l0 l1)
  have HUP := hid (climb_up leaf p n i hi)
  obtain ⟨N, hN⟩ : ∃ N, 2 ^ n = N := ⟨_, rfl⟩
  have HSH : Hid (wrap64 ((2 : Int) ^ n) = (N : Int)) := hid (by rw [← hN]; exact shl_c8 hn)
  have hN2 : N ≤ 256 := by rw [← hN]; exact pow_c8 hn
  rw [hN] at hi
  have i1 : (i : Int) < (N : Int) := by omega
  have i2 : (0 : Int) ≤ (i : Int) := by omega
  have i3 : ¬ (8 : Int) < (n : Int) := by omega
  have HP := hid hr
  have HV := hid hv
  clear hr hv hN
  have hsh := HSH.out
  go_enter Tryz.func101, Tryz.ntmps101
  go_wp2_with (go_at_call 99; refine (HL.out).mono ?_; rintro e w1 ⟨rfl, hb⟩; have HB1 := hid hb; clear hb)
  clear hsh HL
  go_loopg [29, 8] n (fun q x t wr => ∃ (k : Nat) (y : Int), k ≤ n ∧ q = n - k ∧ x = .int .i64 (k : Int) ∧ t = .int .u64 y ∧ 0 ≤ y ∧ y ≤ 18446744073709551615 ∧ Hid (y = upC i leaf p k) ∧ Hid (Below w.heap.size w wr))
  case atStart => exact ⟨0, _, by omega, rfl, rfl, rfl, (prQ_rng _ _).1, by have := (prQ_rng leaf 0).2; omega, hid rfl, HB1⟩
  case round =>
    clear HB1
    obtain ⟨k, y, hk, rfl, rfl, rfl, y0, y1, HY, HB⟩ := hrel
    by_cases hlt : k < n
    · obtain ⟨bp, op, rfl, hrp⟩ := HP.out (by omega)
      have c1 := (hrp.kept HB.out (hrp.lt (by omega))) k hlt
      have bx := HV.out k
      obtain ⟨x, hx⟩ : ∃ x, p k = x := ⟨_, rfl⟩
      rw [hx] at c1 bx
      obtain ⟨x0, x1⟩ := bx
      obtain ⟨m, hm⟩ : ∃ m : Nat, i / 2 ^ k = m := ⟨_, rfl⟩
      have hmk : m ≤ 100000 := by rw [← hm]; exact Nat.le_trans (Nat.div_le_self _ _) (by omega)
      have hmi : (i : Int) / 2 ^ k = (m : Int) := by rw [← hm]; simp
      have hba := low_and m hmk
      have k0 : (0 : Int) ≤ (k : Int) := by omega
      have k1 : (k : Int) < (n : Int) := by omega
      clear hrp
      by_cases hbit : m % 2 = 0
      · rw [hbit] at hba
        have hbt : (bits .and .i64 (m : Int) 1 == 0) = true := by rw [hba]; rfl
        have HU : Hid (prQ y x = upC i leaf p (k + 1)) := hid (by rw [upC, hm, if_pos hbit, HY.out, hx])
        have HPA := hid (tpair y x wr y0 y1 x0 x1)
        clear hba hbit hm hx
        go_wp2_with (go_at_call 120; refine (HPA.out).mono ?_; rintro e w2 ⟨rfl, hb⟩; have HB2 := hid hb; clear hb)
        go_roundg (n - (k + 1))
        case measure => go_light; omega
        case rel => exact ⟨k + 1, _, by omega, rfl, by go_num, rfl, (prQ_rng _ _).1, by have := (prQ_rng y x).2; omega, HU, hid (HB.out.trans (HB2.out.mono HB.out.size))⟩
      · have hbit1 : m % 2 = 1 := by omega
        rw [hbit1] at hba
        have hbt : (bits .and .i64 (m : Int) 1 == 0) = false := by rw [hba]; rfl
        have HU : Hid (prQ x y = upC i leaf p (k + 1)) := hid (by rw [upC, hm, if_neg hbit, HY.out, hx])
        have HPA := hid (tpair x y wr x0 x1 y0 y1)
        clear hba hbit hbit1 hm hx
        go_wp2_with (go_at_call 120; refine (HPA.out).mono ?_; rintro e w2 ⟨rfl, hb⟩; have HB2 := hid hb; clear hb)
        go_roundg (n - (k + 1))
        case measure => go_light; omega
        case rel => exact ⟨k + 1, _, by omega, rfl, by go_num, rfl, (prQ_rng _ _).1, by have := (prQ_rng x y).2; omega, HU, hid (HB.out.trans (HB2.out.mono HB.out.size))⟩
    · have e : k = n := by omega
      subst e
      go_wp2_with fail
      go_ret2
      exact ⟨ret_u64_err (HY.out.trans HUP.out.symm), HB.out⟩

set_option maxHeartbeats 1000000 in
set_option maxRecDepth 100000 in
theorem tclimb_arg (n cap : Nat) (i : Int) (ao : Option Addr) (leaf : Int) (w : World) (hm : n ≤ maxLen) (h : 8 < n ∨ i < 0 ∨ (n ≤ 8 ∧ ((2 ^ n : Nat) : Int) ≤ i)) :
    Calls Tryz.prog 101 #[.int .i64 i, .int .u64 leaf, .slice ao n cap] w fun e w' => e = .returned (.tuple #[.int .u64 0, .int .i64 1]) ∧ Below w.heap.size w w' := by
  by_cases h8 : 8 < n
  · have i3 : (8 : Int) < (n : Int) := by omega
    clear h
    go_enter Tryz.func101, Tryz.ntmps101
    go_wp2_with fail
    go_ret2
    exact ⟨rfl, Below.refl _ _⟩
  · have i3 : ¬ (8 : Int) < (n : Int) := by omega
    by_cases hneg : i < 0
    · clear h
      go_enter Tryz.func101, Tryz.ntmps101
      go_wp2_with fail
      go_ret2
      exact ⟨rfl, Below.refl _ _⟩
    · have h2 : ((2 ^ n : Nat) : Int) ≤ i := by omega
      obtain ⟨N, hN⟩ : ∃ N, 2 ^ n = N := ⟨_, rfl⟩
      have HSH : Hid (wrap64 ((2 : Int) ^ n) = (N : Int)) := hid (by rw [← hN]; exact shl_c8 (by omega))
      rw [hN] at h2
      have h3 : ¬ i < (N : Int) := by omega
      clear h hN
      have hsh := HSH.out
      go_enter Tryz.func101, Tryz.ntmps101
      go_wp2_with fail
      go_ret2
      exact ⟨rfl, Below.refl _ _⟩


end Go.Proofs.YtbchbmelofojkaaGreatDoor

/-
  Contracts of package open's halfOf, between, leadsTo, arePlaces and hasForm, for every input; they write nothing that was there.
-/
namespace Go.Proofs.YtbchbmelofojkaaGreatDoor
open Go.RowKit
set_option linter.unusedVariables false
attribute [local go_sem ↓] Go.wp_at_zero Go.wp_at_succ

/-- A box of three cells. -/
structure Bx3 (w : World) (B : Nat) (p q r : Value) : Prop where
  c0 : w.cell? ⟨B, 0, none⟩ = some p
  c1 : w.cell? ⟨B, 1, none⟩ = some q
  c2 : w.cell? ⟨B, 2, none⟩ = some r
theorem Bx3.new (w : World) (p q r : Value) (t : TypeId) : Bx3 (w.alloc (.cells #[p, q, r] t)) w.heap.size p q r :=
  ⟨by rw [World.cell?_alloc_new]; rfl, by rw [World.cell?_alloc_new]; rfl, by rw [World.cell?_alloc_new]; rfl⟩
theorem Bx3.kept {w w' : World} {B : Nat} {p q r : Value} (h : Bx3 w B p q r) (hb : Below w.heap.size w w') : Bx3 w' B p q r := by
  have hl : B < w.heap.size := World.block_lt_of_cell? w _ h.c0
  exact ⟨(hb.cell hl).trans h.c0, (hb.cell hl).trans h.c1, (hb.cell hl).trans h.c2⟩
/-- A box of two cells. -/
structure Bx2 (w : World) (B : Nat) (p q : Value) : Prop where
  c0 : w.cell? ⟨B, 0, none⟩ = some p
  c1 : w.cell? ⟨B, 1, none⟩ = some q
theorem Bx2.new (w : World) (p q : Value) (t : TypeId) : Bx2 (w.alloc (.cells #[p, q] t)) w.heap.size p q :=
  ⟨by rw [World.cell?_alloc_new]; rfl, by rw [World.cell?_alloc_new]; rfl⟩
theorem Bx2.kept {w w' : World} {B : Nat} {p q : Value} (h : Bx2 w B p q) (hb : Below w.heap.size w w') : Bx2 w' B p q := by
  have hl : B < w.heap.size := World.block_lt_of_cell? w _ h.c0
  exact ⟨(hb.cell hl).trans h.c0, (hb.cell hl).trans h.c1⟩
theorem Below.drewN' {w w' : World} {B : Nat} (h : Below B w w') (n : Nat) : Below B w (w'.drewN n) := ⟨h.os, h.tape, h.output, h.size, h.block⟩
theorem bel_new (w : World) (x : Obj) : Below w.heap.size w (w.alloc x) := (Below.refl _ w).alloc (Nat.le_refl _) _

set_option maxHeartbeats 400000 in
theorem halfOf_at (n k q H : Nat) (w : World) (hn : n ≤ 8) (hq : q ≤ 8) (HQ : Hid ((n : Int) - (k : Int) - 1 = (q : Int))) (HS : Hid (wrap64 ((2 : Int) ^ q) = (H : Int))) (hk : k ≤ 8) :
    Calls Tryz.prog 82 #[.int .i64 (n : Int), .int .i64 (k : Int)] w fun e w' => e = .returned (.int .i64 (H : Int)) ∧ w' = w := by
  have hq2 := HQ.out
  go_enter Tryz.func82, Tryz.ntmps82
  go_wp2_with fail
  go_ret
  exact ⟨congrArg (fun x => Ending.returned (.int .i64 x)) HS.out, rfl⟩
theorem halfOf_any (n k : Nat) (w : World) (hn : n ≤ 8) (hk : k < n) :
    Calls Tryz.prog 82 #[.int .i64 (n : Int), .int .i64 (k : Int)] w fun e w' => e = .returned (.int .i64 (hfQ n k : Int)) ∧ w' = w :=
  halfOf_at n k (n - 1 - k) (hfQ n k) w hn (by omega) (hid (by omega)) (hid (shl_c8 (by omega))) (by omega)

set_option maxHeartbeats 1000000 in
theorem obetw_any (a c x : Int) (w : World) (a0 : 0 ≤ a) (a1 : a ≤ 18446744073709551615) (c0 : 0 ≤ c) (c1 : c ≤ 18446744073709551615) (x0 : 0 ≤ x) (x1 : x ≤ 18446744073709551615) :
    Calls Tryz.prog 102 #[.agg #[.int .u64 a, .int .u64 c], .int .u64 x] w fun e w' => e = .returned (.int .u64 (addQ a (mulQ x (subQ c a)))) ∧ Below w.heap.size w w' := by
  have HB := hid (bel_new w (.cells #[.int .u64 a, .int .u64 c] 52))
  obtain ⟨s0, s1⟩ := subQ_rng c a
  obtain ⟨m0, m1⟩ := mulQ_rng x (subQ c a)
  go_enter Tryz.func102, Tryz.ntmps102
  go_wp2_with fail
  go_quiet (first | (go_at_call 76; exact Calls.quiet_of_same (sub_any _ _ _ (by omega) (by omega) (by omega) (by omega))) | (go_at_call 78; exact Calls.quiet_of_same (mul_any _ _ _ (by omega) (by omega) (by omega) (by omega))) | (go_at_call 77; exact Calls.quiet_of_same (add_any _ _ _ (by omega) (by omega) (by omega) (by omega))))
  go_wp2_with fail
  go_ret
  exact ⟨rfl, Below.drewN' HB.out _⟩

set_option maxHeartbeats 1000000 in
theorem leadsTo_any (n cap i : Nat) (ao : Option Addr) (x root : Int) (p : Nat → Int) (w : World) (hn : n ≤ 8) (hr : PRow w ao n p) (hv : Nums p) (hi : i < 2 ^ n) (x0 : 0 ≤ x) (x1 : x ≤ 18446744073709551615) (r0 : 0 ≤ root) (r1 : root ≤ 18446744073709551615) :
    Calls Tryz.prog 68 #[.int .i64 (i : Int), .int .u64 x, .slice ao n cap, .int .u64 root] w fun e w' => e = .returned (.bool (climbQ n i x p == nrm root)) ∧ Below w.heap.size w w' := by
  have hc := tclimb_ok n cap i ao x p w hn hr hv hi x0 x1
  obtain ⟨y, hy⟩ : ∃ y, climbQ n i x p = y := ⟨_, rfl⟩
  rw [hy] at hc ⊢
  obtain ⟨r, hrr⟩ : ∃ r, (y == nrm root) = r := ⟨_, rfl⟩
  rw [hrr]
  have HC := hid hc
  clear hc hr hv hi hy
  go_enter Tryz.func68, Tryz.ntmps68
  go_wp2_with (first | (go_at_call 101; refine (HC.out).mono ?_; rintro e w1 ⟨rfl, hb⟩; have HB := hid hb; clear hb) | (go_at_call 48; refine (norm_any _ _ (by omega) (by omega)).mono ?_; rintro e w' ⟨rfl, hw⟩; obtain rfl := hw.symm))
  go_ret
  exact ⟨rfl, HB.out⟩

/-- They may be: at most 32 places, each of a pair. -/
def plOk (m n : Nat) (p : Nat → Int) : Prop := m ≤ 32 ∧ ∀ j, j < m → 0 ≤ p j ∧ p j < ((hfQ n 0 : Nat) : Int)
set_option maxHeartbeats 4000000 in
set_option maxRecDepth 100000 in
theorem arePlaces_any (m cap n : Nat) (ao : Option Addr) (p : Nat → Int) (w : World) (hn1 : 1 ≤ n) (hn : n ≤ 8) (hm : m ≤ maxLen) (hr : IRowP w ao m p) :
    Calls Tryz.prog 50 #[.slice ao m cap, .int .i64 (n : Int)] w fun e w' => ∃ r : Bool, e = .returned (.bool r) ∧ (r = true ↔ plOk m n p) ∧ w' = w := by
  by_cases h32 : m ≤ 32
  · have HR := hid hr
    have HH := hid (fun W => halfOf_any n 0 W hn (by omega))
    have h0 : hfQ n 0 ≤ 256 := hfQ_le hn
    obtain ⟨H, hH⟩ : ∃ H, hfQ n 0 = H := ⟨_, rfl⟩
    have HPL : Hid (∀ q : Prop, (q ↔ plOk m n p) ↔ (q ↔ ∀ j, j < m → 0 ≤ p j ∧ p j < (H : Int))) := hid (fun q => by unfold plOk; rw [hH]; constructor <;> intro h <;> rw [h] <;> constructor <;> intro h2; exact h2.2; exact ⟨h32, h2⟩; exact ⟨h32, h2⟩; exact h2.2)
    rw [hH] at HH h0
    have m32 : ¬ (32 : Int) < (m : Int) := by omega
    clear hr hH
    go_enter Tryz.func50, Tryz.ntmps50
    go_wp2_with fail
    go_loopg [12] m (fun q x wr => ∃ k : Nat, k ≤ m ∧ q = m - k ∧ x = .int .i64 (k : Int) ∧ Hid (wr = w) ∧ Hid (∀ j, j < k → 0 ≤ p j ∧ p j < (H : Int)))
    case atStart => exact ⟨0, by omega, rfl, rfl, hid rfl, hid (fun j hj => absurd hj (by omega))⟩
    case round =>
      obtain ⟨k, hk, rfl, rfl, HW, HJ⟩ := hrel
      obtain rfl := HW.out
      clear HW
      by_cases hlt : k < m
      · obtain ⟨b, off, rfl, hrp⟩ := HR.out (by omega)
        have c1 := hrp k hlt
        obtain ⟨x, hx⟩ : ∃ x, p k = x := ⟨_, rfl⟩
        rw [hx] at c1
        have HX := hid hx
        clear hrp hx
        have k0 : (0 : Int) ≤ (k : Int) := by omega
        have k1 : (k : Int) < (m : Int) := by omega
        by_cases hneg : x < 0
        · have d2 : decide (x < 0) = true := decide_eq_true hneg
          go_wp2_with fail
          go_ret
          exact ⟨false, rfl, (HPL.out _).2 ⟨fun h => (by cases h), fun h => by have := (h k hlt).1; rw [HX.out] at this; omega⟩, rfl⟩
        · have d2 : decide (x < 0) = false := decide_eq_false hneg
          by_cases hge : (H : Int) ≤ x
          · have d3 : decide ((H : Int) ≤ x) = true := decide_eq_true hge
            go_wp2_with (go_at_call 82; refine (HH.out _).mono ?_; rintro e w' ⟨rfl, hw⟩; obtain rfl := hw.symm)
            go_ret
            exact ⟨false, rfl, (HPL.out _).2 ⟨fun h => (by cases h), fun h => by have := (h k hlt).2; rw [HX.out] at this; omega⟩, rfl⟩
          · have d3 : decide ((H : Int) ≤ x) = false := decide_eq_false hge
            have HJ2 : Hid (∀ j, j < k + 1 → 0 ≤ p j ∧ p j < (H : Int)) := hid (fun j hj => by
              by_cases e : j = k
              · rw [e, HX.out]; omega
              · exact HJ.out j (by omega))
            clear HJ
            go_wp2_with (go_at_call 82; refine (HH.out _).mono ?_; rintro e w' ⟨rfl, hw⟩; obtain rfl := hw.symm)
            go_roundg (m - (k + 1))
            case measure => go_light; omega
            case rel => exact ⟨k + 1, by omega, rfl, by go_num, hid rfl, HJ2⟩
      · have e : k = m := by omega
        subst e
        go_wp2_with fail
        go_ret
        exact ⟨true, rfl, (HPL.out _).2 ⟨fun _ => HJ.out, fun _ => rfl⟩, rfl⟩
  · have m32 : (32 : Int) < (m : Int) := by omega
    go_enter Tryz.func50, Tryz.ntmps50
    go_wp2_with fail
    go_ret
    exact ⟨false, rfl, ⟨fun h => (by cases h), fun h => absurd h.1 h32⟩, rfl⟩

end Go.Proofs.YtbchbmelofojkaaGreatDoor

/-
  A contract of package open's hasForm, for every opening; it makes new blocks and writes nothing that was there.
-/
namespace Go.Proofs.YtbchbmelofojkaaGreatDoor
open Go.RowKit
set_option linter.unusedVariables false
attribute [local go_sem ↓] Go.wp_at_zero Go.wp_at_succ

/-- What holds of the world all along: the opening's box, its looks, and that nothing was written. -/
structure StO (w W : World) (B : Nat) (p q r : Value) (al : Option Addr) (o : OQ) (mm : OM) : Prop where
  bel : Below w.heap.size w W
  box : Bx3 W B p q r
  row : OpRow W al o mm
theorem StO.next {w W W' : World} {B : Nat} {p q r : Value} {al : Option Addr} {o : OQ} {mm : OM} (h : StO w W B p q r al o mm) (hb : Below W.heap.size W W') : StO w W' B p q r al o mm := ⟨h.bel.trans (hb.mono h.bel.size), h.box.kept hb, h.row.kept hb⟩
/-- Look i is as it must be. -/
def lkOk (o : OQ) (n i : Nat) : Prop := o.np i = n ∧ o.nt i = n ∧ ∀ k, k < n → o.tl i k 0 = n - k ∧ o.tl i k 1 = n - k
def ofmQ (nr n m : Nat) (o : OQ) : Prop := nr = n ∧ o.n = m ∧ o.form n
theorem ofm_no {nr n m i : Nat} {o : OQ} (hi : i < o.n) (h : ¬ lkOk o n i) : (false = true) ↔ ofmQ nr n m o := ⟨fun h => (by cases h), fun h2 => absurd (h2.2.2 i hi) h⟩

set_option maxHeartbeats 4000000 in
set_option maxRecDepth 100000 in
theorem ohasForm_any (ar al : Option Addr) (nr cr N cl n m : Nat) (v : Int) (o : OQ) (mm : OM) (w : World) (hn1 : 1 ≤ n) (hn : n ≤ 8) (hm : m ≤ 1000) (hN : o.n = N) (hr : OpRow w al o mm) :
    Calls Tryz.prog 67 #[.agg #[.slice ar nr cr, .int .u64 v, .slice al N cl], .int .i64 (n : Int), .int .i64 (m : Int)] w fun e w' => ∃ r : Bool, e = .returned (.bool r) ∧ (r = true ↔ ofmQ nr n m o) ∧ Below w.heap.size w w' := by
  have hb0 := bel_new w (.cells #[.slice ar nr cr, .int .u64 v, .slice al N cl] 42)
  have HS0 : Hid (StO w (w.alloc (.cells #[.slice ar nr cr, .int .u64 v, .slice al N cl] 42)) w.heap.size (.slice ar nr cr) (.int .u64 v) (.slice al N cl) al o mm) := hid ⟨hb0, Bx3.new w _ _ _ _, hr.kept hb0⟩
  have HN := hid hN
  clear hb0 hr
  by_cases h1 : nr = n
  · have e1 : ((nr : Int) != (n : Int)) = false := by simp [h1]
    by_cases h2 : N = m
    · have e2 : ((N : Int) != (m : Int)) = false := by simp [h2]
      have H12 := hid (And.intro h1 (hN.trans h2))
      have hN3 : N ≤ 1000 := by omega
      clear h1 h2 hN
      go_enter Tryz.func67, Tryz.ntmps67
      go_wp2_with fail
      obtain ⟨B, hB⟩ : ∃ B, w.heap.size = B := ⟨_, rfl⟩
      have HS1 : Hid (StO w (w.alloc (.cells #[.slice ar nr cr, .int .u64 v, .slice al N cl] 42)) B (.slice ar nr cr) (.int .u64 v) (.slice al N cl) al o mm) := hid (by rw [← hB]; exact HS0.out)
      rw [hB]
      clear hB HS0 e1 e2
      generalize w.alloc (.cells #[.slice ar nr cr, .int .u64 v, .slice al N cl] 42) = W1 at HS1 ⊢
      go_loopg [26] N (fun q x wr => ∃ t : Nat, t ≤ N ∧ q = N - t ∧ x = .int .i64 (t : Int) ∧ Hid (∀ j, j < t → lkOk o n j) ∧ Hid (StO w wr B (.slice ar nr cr) (.int .u64 v) (.slice al N cl) al o mm))
      case atStart => exact ⟨0, by omega, rfl, rfl, hid (fun j hj => absurd hj (by omega)), HS1⟩
      case round =>
        clear HS1
        obtain ⟨t, ht, rfl, rfl, HOK, HS⟩ := hrel
        by_cases htl : t < N
        · obtain ⟨bl, ol, rfl, hrow⟩ := HS.out.row (by rw [HN.out]; omega)
          obtain ⟨c0, c1, hq, hp⟩ := hrow t (by rw [HN.out]; exact htl)
          rw [Nat.mul_comm 2 t] at c0 c1
          have HLK : Hid (o.np t = n → o.nt t = n → (∀ k, k < n → o.tl t k 0 = n - k ∧ o.tl t k 1 = n - k) → lkOk o n t) := hid (fun h1 h2 h3 => ⟨h1, h2, h3⟩)
          have HNO : Hid (¬ lkOk o n t → ((false = true) ↔ ofmQ nr n m o)) := hid (ofm_no (by rw [HN.out]; exact htl))
          have HLO : Hid (lkOk o n t → o.np t = n ∧ o.nt t = n ∧ ∀ k, k < n → o.tl t k 0 = n - k ∧ o.tl t k 1 = n - k) := hid (fun h => h)
          obtain ⟨np, hnp⟩ : ∃ x, o.np t = x := ⟨_, rfl⟩
          obtain ⟨nt, hnt⟩ : ∃ x, o.nt t = x := ⟨_, rfl⟩
          obtain ⟨pa, hpa⟩ : ∃ x, mm.pa t = x := ⟨_, rfl⟩
          obtain ⟨ta, hta⟩ : ∃ x, mm.ta t = x := ⟨_, rfl⟩
          obtain ⟨pc, hpc⟩ : ∃ x, mm.pc t = x := ⟨_, rfl⟩
          obtain ⟨tc, htc⟩ : ∃ x, mm.tc t = x := ⟨_, rfl⟩
          rw [hnp, hpa, hpc] at c0
          rw [hnt, hta, htc] at c1
          rw [hnt, hta] at hp
          rw [hnp, hnt] at HLK HLO
          have HTR := hid hp
          clear hrow hq hp hnp hnt hpa hta hpc htc
          have t0 : (0 : Int) ≤ (t : Int) := by omega
          have t1 : (t : Int) < (N : Int) := by omega
          have hbx := bel_new wr (.cells #[.slice pa np pc, .slice ta nt tc] 50)
          have HS2 := hid (HS.out.next hbx)
          have HT2 := hid (HTR.out.kept hbx)
          clear hbx HS HTR
          by_cases h3 : np = n
          · have e3 : ((np : Int) != (n : Int)) = false := by simp [h3]
            have H3 := hid h3
            clear h3
            by_cases h4 : nt = n
            · have e4 : ((nt : Int) != (n : Int)) = false := by simp [h4]
              have H4 := hid h4
              clear h4
              go_wp2_with fail
              clear e3 e4
              generalize wr.alloc (.cells #[.slice pa np pc, .slice ta nt tc] 50) = W2 at HS2 HT2 ⊢
              go_loopg [45] nt (fun q x ws => ∃ k : Nat, k ≤ nt ∧ q = nt - k ∧ x = .int .i64 (k : Int) ∧ Hid (∀ j, j < k → o.tl t j 0 = n - j ∧ o.tl t j 1 = n - j) ∧ Hid (TRow ws ta nt (mm.A t) (o.tl t) (mm.C t) (o.T t)) ∧ Hid (StO w ws B (.slice ar nr cr) (.int .u64 v) (.slice (some ⟨bl, ol, none⟩) N cl) (some ⟨bl, ol, none⟩) o mm))
              case atStart => exact ⟨0, by omega, rfl, rfl, hid (fun j hj => absurd hj (by omega)), HT2, HS2⟩
              case round =>
                clear HS2 HT2
                obtain ⟨k, hk, rfl, rfl, HK, HT, HS⟩ := hrel
                by_cases hkl : k < nt
                · obtain ⟨bt, ot, rfl, htrow⟩ := HT.out (by omega)
                  obtain ⟨d0, d1, _, _⟩ := htrow k hkl
                  rw [Nat.mul_comm 2 k] at d0 d1
                  obtain ⟨l0, hl0⟩ : ∃ x, o.tl t k 0 = x := ⟨_, rfl⟩
                  obtain ⟨l1, hl1⟩ : ∃ x, o.tl t k 1 = x := ⟨_, rfl⟩
                  obtain ⟨a0, ha0⟩ : ∃ x, mm.A t k 0 = x := ⟨_, rfl⟩
                  obtain ⟨a1, ha1⟩ : ∃ x, mm.A t k 1 = x := ⟨_, rfl⟩
                  obtain ⟨q0, hq0⟩ : ∃ x, mm.C t k 0 = x := ⟨_, rfl⟩
                  obtain ⟨q1, hq1⟩ : ∃ x, mm.C t k 1 = x := ⟨_, rfl⟩
                  rw [hl0, ha0, hq0] at d0
                  rw [hl1, ha1, hq1] at d1
                  have HL01 := hid (And.intro hl0 hl1)
                  clear htrow hl0 hl1 ha0 ha1 hq0 hq1
                  have k0 : (0 : Int) ≤ (k : Int) := by omega
                  have k1 : (k : Int) < (nt : Int) := by omega
                  have hbx := bel_new wr (.cells #[.slice a0 l0 q0, .slice a1 l1 q1] 53)
                  have HS3 := hid (HS.out.next hbx)
                  have HT3 := hid (HT.out.kept hbx)
                  clear hbx HS HT
                  have hkn : k < n := by have := H4.out; omega
                  by_cases h5 : l0 = n - k
                  · have e5 : ((l0 : Int) != (n : Int) - (k : Int)) = false := by rw [bne_eq_false_iff_eq]; omega
                    have H5 := hid h5
                    clear h5
                    by_cases h6 : l1 = n - k
                    · have e6 : ((l1 : Int) != (n : Int) - (k : Int)) = false := by rw [bne_eq_false_iff_eq]; omega
                      have H6 := hid h6
                      clear h6
                      go_wp2_with fail
                      go_roundg (nt - (k + 1))
                      case measure => go_light; omega
                      case rel => exact ⟨k + 1, by omega, rfl, by go_num, hid (fun j hj => by
                        by_cases e : j = k
                        · rw [e, HL01.out.1, HL01.out.2]; exact ⟨H5.out, H6.out⟩
                        · exact HK.out j (by omega)), HT3, HS3⟩
                    · have e6 : ((l1 : Int) != (n : Int) - (k : Int)) = true := by rw [bne_iff_ne]; omega
                      go_wp2_with fail
                      go_ret
                      exact ⟨false, rfl, HNO.out (fun h => h6 (by have := ((HLO.out h).2.2 k hkn).2; rw [HL01.out.2] at this; exact this)), HS3.out.bel⟩
                  · have e5 : ((l0 : Int) != (n : Int) - (k : Int)) = true := by rw [bne_iff_ne]; omega
                    go_wp2_with fail
                    go_ret
                    exact ⟨false, rfl, HNO.out (fun h => h5 (by have := ((HLO.out h).2.2 k hkn).1; rw [HL01.out.1] at this; exact this)), HS3.out.bel⟩
                · have e : k = nt := by omega
                  subst e
                  have HOK2 : Hid (∀ j, j < t + 1 → lkOk o n j) := hid (fun j hj => by
                    by_cases e : j = t
                    · rw [e]; exact HLK.out H3.out H4.out (by have h := HK.out; have h4 := H4.out; subst h4; exact h)
                    · exact HOK.out j (by omega))
                  clear HOK
                  go_wp2_with fail
                  go_roundg (N - (t + 1))
                  case measure => go_light; omega
                  case rel => exact ⟨t + 1, by omega, rfl, by go_num, HOK2, HS⟩
            · have e4 : ((nt : Int) != (n : Int)) = true := by rw [bne_iff_ne]; omega
              go_wp2_with fail
              go_ret
              exact ⟨false, rfl, HNO.out (fun h => h4 (HLO.out h).2.1), HS2.out.bel⟩
          · have e3 : ((np : Int) != (n : Int)) = true := by rw [bne_iff_ne]; omega
            go_wp2_with fail
            go_ret
            exact ⟨false, rfl, HNO.out (fun h => h3 (HLO.out h).1), HS2.out.bel⟩
        · have e : t = N := by omega
          subst e
          go_wp2_with fail
          go_ret
          exact ⟨true, rfl, ⟨fun _ => ⟨H12.out.1, H12.out.2, fun i hi => HOK.out i (by rw [HN.out] at hi; exact hi)⟩, fun _ => rfl⟩, HS.out.bel⟩
    · have e2 : ((N : Int) != (m : Int)) = true := by rw [bne_iff_ne]; omega
      clear h1
      go_enter Tryz.func67, Tryz.ntmps67
      go_wp2_with fail
      go_ret
      exact ⟨false, rfl, ⟨fun h => (by cases h), fun h => absurd (HN.out.symm.trans h.2.1) h2⟩, HS0.out.bel⟩
  · have e1 : ((nr : Int) != (n : Int)) = true := by rw [bne_iff_ne]; omega
    go_enter Tryz.func67, Tryz.ntmps67
    go_wp2_with fail
    go_ret
    exact ⟨false, rfl, ⟨fun h => (by cases h), fun h => absurd h.1 h1⟩, HS0.out.bel⟩

end Go.Proofs.YtbchbmelofojkaaGreatDoor

/-
  Contracts of package open's claim.next and claim.fits; they make new blocks and write nothing that was there.
-/
namespace Go.Proofs.YtbchbmelofojkaaGreatDoor
open Go.RowKit
set_option linter.unusedVariables false
attribute [local go_sem ↓] Go.wp_at_zero Go.wp_at_succ

theorem two_cases {s : Nat} (h : s < 2) : s = 0 ∨ s = 1 := by omega
set_option maxHeartbeats 2000000 in
set_option maxRecDepth 100000 in
theorem onext_any (n i q H : Nat) (ar ap pa ta : Option Addr) (nr cr cp pc nt tc : Nat) (v : Int) (P : Nat → Nat → Int) (w : World) (hn : n ≤ 8) (hi : i < n) (hH : H = hfQ n i) (hq : q < H) (hr : QRow w pa n P) :
    Calls Tryz.prog 103 #[.agg #[.slice ar nr cr, .slice ap n cp, .int .u64 v], .agg #[.slice pa n pc, .slice ta nt tc], .int .i64 (i : Int), .int .i64 (q : Int)] w fun e w' => e = .returned (.int .u64 (if i + 1 = n then v else P (i + 1) (q / hfQ n (i + 1)))) ∧ Below w.heap.size w w' := by
  have hb0 := bel_new w (.cells #[.slice ar nr cr, .slice ap n cp, .int .u64 v] 117)
  have hb1 := bel_new (w.alloc (.cells #[.slice ar nr cr, .slice ap n cp, .int .u64 v] 117)) (.cells #[.slice pa n pc, .slice ta nt tc] 50)
  have HB := hid (hb0.trans (hb1.mono hb0.size))
  clear hb0 hb1
  by_cases hl : i + 1 = n
  · rw [if_pos hl]
    have e1 : ((i : Int) == (n : Int) - 1) = true := by rw [beq_iff_eq]; omega
    clear hl hr
    go_enter Tryz.func103, Tryz.ntmps103
    go_wp2_with fail
    go_ret
    exact ⟨rfl, HB.out⟩
  · rw [if_neg hl]
    have e1 : ((i : Int) == (n : Int) - 1) = false := by rw [beq_eq_false_iff_ne]; omega
    have hin : i + 1 < n := by omega
    have e2 := hfQ_two hin
    have hp := hfQ_pos n (i + 1)
    have HH := hid (fun W => halfOf_any n (i + 1) W hn hin)
    have hle := hfQ_le (k := i + 1) hn
    obtain ⟨z, hz⟩ : ∃ z, hfQ n (i + 1) = z := ⟨_, rfl⟩
    rw [hz] at e2 hp HH hle ⊢
    obtain ⟨bq, oq, rfl, hrow⟩ := (hr.kept HB.out) (by omega)
    obtain ⟨c0, c1⟩ := hrow (i + 1) hin
    rw [Nat.mul_comm 2 (i + 1)] at c0 c1
    have hs : q / z < 2 := by rw [Nat.div_lt_iff_lt_mul hp]; omega
    have z1 : ((z : Int) == 0) = false := by rw [beq_eq_false_iff_ne]; omega
    have z2 : ¬ (z : Int) = 0 := by omega
    have n1 : (i : Int) + 1 < (n : Int) := by omega
    have n0 : (0 : Int) ≤ (i : Int) + 1 := by omega
    rcases two_cases hs with h | h
    · rw [h]
      have hd : (q : Int) / (z : Int) = 0 := by have : ((q / z : Nat) : Int) = (q : Int) / (z : Int) := by simp
                                                rw [← this, h]; rfl
      obtain ⟨x, hx⟩ : ∃ x, P (i + 1) 0 = x := ⟨_, rfl⟩
      rw [hx] at c0 ⊢
      clear hl hr hrow c1 hs h hx e2 hz hH
      go_enter Tryz.func103, Tryz.ntmps103
      go_wp2_with fail
      go_quiet (first | (go_at_call 82; exact Calls.quiet_of_same (HH.out _)))
      go_wp2_with fail
      go_ret
      exact ⟨rfl, Below.drewN' HB.out _⟩
    · rw [h]
      have hd : (q : Int) / (z : Int) = 1 := by have : ((q / z : Nat) : Int) = (q : Int) / (z : Int) := by simp
                                                rw [← this, h]; rfl
      obtain ⟨x, hx⟩ : ∃ x, P (i + 1) 1 = x := ⟨_, rfl⟩
      rw [hx] at c1 ⊢
      clear hl hr hrow c0 hs h hx e2 hz hH
      go_enter Tryz.func103, Tryz.ntmps103
      go_wp2_with fail
      go_quiet (first | (go_at_call 82; exact Calls.quiet_of_same (HH.out _)))
      go_wp2_with fail
      go_ret
      exact ⟨rfl, Below.drewN' HB.out _⟩

end Go.Proofs.YtbchbmelofojkaaGreatDoor

/-
  A region that draws its order, whose operations only read and whose callees make memory but write nothing that was there, and hand back values that don't hang on where that is: one walk, in the text's order, serves every order (the class of worlds of the kit's theorem on quiet regions: those that keep what was there); no program in it.
-/
namespace Go.Proofs.YtbchbmelofojkaaGreatDoor
open Go.RowKit
set_option linter.unusedVariables false

/-- The worlds in which S holds, and that keep what W has. -/
structure QT (W : World) (S : World → Prop) where
  w : World
  s : S w
  b : Below W.heap.size W w
theorem QT.ne {W : World} {S : World → Prop} (h : S W.drew) : Nonempty (QT W S) := ⟨⟨W.drew, h, (Below.refl _ W).drew⟩⟩
theorem wp_region_grown {P : Program} {id : Nat} {Q : Exit → Act → World → Prop} {a : Act} {w : World} {l : List Oper} (S : World → Prop) (hm : P.follows .mixedOrders = true) (hB : Region.lexB .any l.toArray = true) (hS : S w.drew)
    (h : wpQuiet P l.toArray (fun w' => ∃ t : QT w S, w' = t.w) (fun a' => ∀ w', (∃ t : QT w S, w' = t.w) → Q .normal a' w') l a) : (Code.region id l.toArray true).wp P Q a w :=
  wp_region_quiet (C := fun w' => ∃ t : QT w S, w' = t.w) hm hB ⟨⟨w.drew, hS, (Below.refl _ w).drew⟩, rfl⟩ (by simpa using h)
/-- A callee's contract, met in a world of the class. -/
theorem Calls.grown_of {P : Program} {f : FuncId} {args : Array Value} {W : World} {S : World → Prop} {t : QT W S} {v : Value}
    (h : Calls P f args t.w fun e w' => e = .returned v ∧ Below t.w.heap.size t.w w') (hS : ∀ w', Below t.w.heap.size t.w w' → S w') : Calls P f args t.w fun e w'' => e = .returned v ∧ ∃ t' : QT W S, w'' = t'.w :=
  h.mono fun _ w' ⟨he, hb⟩ => ⟨he, ⟨w', hS w' hb, t.b.trans (hb.mono t.b.size)⟩, rfl⟩
theorem Calls.grown_same {P : Program} {f : FuncId} {args : Array Value} {W : World} {S : World → Prop} {t : QT W S} {v : Value}
    (h : Calls P f args t.w fun e w' => e = .returned v ∧ w' = t.w) : Calls P f args t.w fun e w'' => e = .returned v ∧ ∃ t' : QT W S, w'' = t'.w :=
  h.mono fun _ w' ⟨he, hb⟩ => ⟨he, t, hb⟩

end Go.Proofs.YtbchbmelofojkaaGreatDoor

/-
  A contract of package open's claim.fits; it makes new blocks and writes nothing that was there.
-/
namespace Go.Proofs.YtbchbmelofojkaaGreatDoor
open Go.RowKit
set_option linter.unusedVariables false
attribute [local go_sem ↓] Go.wp_at_zero Go.wp_at_succ

/-- The cells that a round of fits reads. -/
abbrev FitC (B B2 B3 bt tp br rp bp pp : Nat) (vr vp vv pl pt x0 x1 l0 l1 ry gy : Value) (W : World) : Prop :=
  W.cell? ⟨B, 0, none⟩ = some vr ∧ W.cell? ⟨B, 1, none⟩ = some vp ∧ W.cell? ⟨B, 2, none⟩ = some vv ∧ W.cell? ⟨B2, 0, none⟩ = some pl ∧ W.cell? ⟨B2, 1, none⟩ = some pt ∧ W.cell? ⟨B3, 0, none⟩ = some x0 ∧ W.cell? ⟨B3, 1, none⟩ = some x1 ∧
  W.cell? ⟨bt, tp, none⟩ = some l0 ∧ W.cell? ⟨bt, tp + 1, none⟩ = some l1 ∧ W.cell? ⟨br, rp, none⟩ = some ry ∧ W.cell? ⟨bp, pp, none⟩ = some gy
theorem keepC {W W' : World} (hb : Below W.heap.size W W') {a : Addr} {v : Value} (h : W.cell? a = some v) : W'.cell? a = some v := (hb.cell (World.block_lt_of_cell? W _ h)).trans h
theorem FitC.next {B B2 B3 bt tp br rp bp pp : Nat} {vr vp vv pl pt x0 x1 l0 l1 ry gy : Value} {W W' : World} (h : FitC B B2 B3 bt tp br rp bp pp vr vp vv pl pt x0 x1 l0 l1 ry gy W) (hb : Below W.heap.size W W') : FitC B B2 B3 bt tp br rp bp pp vr vp vv pl pt x0 x1 l0 l1 ry gy W' := by
  obtain ⟨h1, h2, h3, h4, h5, h6, h7, h8, h9, ha, hc⟩ := h
  exact ⟨keepC hb h1, keepC hb h2, keepC hb h3, keepC hb h4, keepC hb h5, keepC hb h6, keepC hb h7, keepC hb h8, keepC hb h9, keepC hb ha, keepC hb hc⟩
structure StFo (w W : World) (B B2 : Nat) (vr vp vv pl pt : Value) : Prop where
  bel : Below w.heap.size w W
  bx : Bx3 W B vr vp vv
  by' : Bx2 W B2 pl pt
theorem StFo.next {w W W' : World} {B B2 : Nat} {vr vp vv pl pt : Value} (h : StFo w W B B2 vr vp vv pl pt) (hb : Below W.heap.size W W') : StFo w W' B B2 vr vp vv pl pt := ⟨h.bel.trans (hb.mono h.bel.size), h.bx.kept hb, h.by'.kept hb⟩
theorem StFo.start (w : World) (vr vp vv pl pt : Value) (t t' : TypeId) : StFo w ((w.alloc (.cells #[vr, vp, vv] t)).alloc (.cells #[pl, pt] t')) w.heap.size (w.heap.size + 1) vr vp vv pl pt := by
  have h1 := bel_new w (.cells #[vr, vp, vv] t)
  have h2 := bel_new (w.alloc (.cells #[vr, vp, vv] t)) (.cells #[pl, pt] t')
  have e : (w.alloc (.cells #[vr, vp, vv] t)).heap.size = w.heap.size + 1 := by simp
  refine ⟨h1.trans (h2.mono h1.size), (Bx3.new w vr vp vv t).kept h2, ?_⟩
  rw [← e]
  exact Bx2.new _ pl pt t'
theorem fit_no1 {n : Nat} {rt g : Nat → Int} {v : Int} {P : Nat → Nat → Int} {T : Nat → Nat → Nat → Int} {p k : Nat} (h : (climbQ (n - k) (p % hfQ n k) (P k 0) (T k 0) == nrm (rt k)) = false) : fitB n rt g v P T p k = false := by unfold fitB; rw [h]; rfl
theorem fit_no2 {n : Nat} {rt g : Nat → Int} {v : Int} {P : Nat → Nat → Int} {T : Nat → Nat → Nat → Int} {p k : Nat} (h : (climbQ (n - k) (p % hfQ n k + hfQ n k) (P k 1) (T k 1) == nrm (rt k)) = false) : fitB n rt g v P T p k = false := by unfold fitB; rw [h]; simp
theorem fit_no3 {n : Nat} {rt g : Nat → Int} {v : Int} {P : Nat → Nat → Int} {T : Nat → Nat → Nat → Int} {p k : Nat} (h : (btQ (P k) (g k) == nrm (nxQ n P v p k)) = false) : fitB n rt g v P T p k = false := by unfold fitB; rw [h]; simp
theorem fit_yes {n : Nat} {rt g : Nat → Int} {v : Int} {P : Nat → Nat → Int} {T : Nat → Nat → Nat → Int} {p k : Nat} (h1 : (climbQ (n - k) (p % hfQ n k) (P k 0) (T k 0) == nrm (rt k)) = true) (h2 : (climbQ (n - k) (p % hfQ n k + hfQ n k) (P k 1) (T k 1) == nrm (rt k)) = true) (h3 : (btQ (P k) (g k) == nrm (nxQ n P v p k)) = true) : fitB n rt g v P T p k = true := by unfold fitB; rw [h1, h2, h3]; rfl
theorem ret_bool {a b : Bool} (h : a = b) : Ending.returned (.bool a) = .returned (.bool b) := by rw [h]
theorem nxQ_rng {n : Nat} {P : Nat → Nat → Int} {v : Int} {p k : Nat} (hP : ∀ k e, 0 ≤ P k e ∧ P k e ≤ 18446744073709551615) (v0 : 0 ≤ v) (v1 : v ≤ 18446744073709551615) : 0 ≤ nxQ n P v p k ∧ nxQ n P v p k ≤ 18446744073709551615 := by
  unfold nxQ
  split
  · exact ⟨v0, v1⟩
  · exact hP _ _

set_option maxHeartbeats 8000000 in
set_option maxRecDepth 100000 in
theorem fits_any (n p cr cp pc tc : Nat) (ar ap pa ta : Option Addr) (v : Int) (rt g : Nat → Int) (P : Nat → Nat → Int) (A : Nat → Nat → Option Addr) (L C : Nat → Nat → Nat) (T : Nat → Nat → Nat → Int) (w : World) (hn : n ≤ 8) (hp : p ≤ 1000) (hr : PRow w ar (n + 1) rt) (hrv : Nums rt) (hg : PRow w ap n g) (hgv : Nums g) (v0 : 0 ≤ v) (v1 : v ≤ 18446744073709551615) (hq : QRow w pa n P) (hqv : ∀ k e, 0 ≤ P k e ∧ P k e ≤ 18446744073709551615) (ht : TRow w ta n A L C T) (hL : ∀ k, k < n → L k 0 = n - k ∧ L k 1 = n - k) (htv : ∀ k e, Nums (T k e)) :
    Calls Tryz.prog 69 #[.agg #[.slice ar (n + 1) cr, .slice ap n cp, .int .u64 v], .int .i64 (p : Int), .agg #[.slice pa n pc, .slice ta n tc]] w fun e w' => e = .returned (.bool (allB n fun k => fitB n rt g v P T p k)) ∧ Below w.heap.size w w' := by
  have HR := hid (And.intro hr (And.intro hg (And.intro hq ht)))
  have HV := hid (And.intro hrv (And.intro hgv (And.intro hqv htv)))
  have HL := hid hL
  have HS0 := hid (StFo.start w (.slice ar (n + 1) cr) (.slice ap n cp) (.int .u64 v) (.slice pa n pc) (.slice ta n tc) 117 50)
  clear hr hrv hg hgv hq hqv ht hL htv
  go_enter Tryz.func69, Tryz.ntmps69
  go_wp2_with fail
  obtain ⟨B, hB⟩ : ∃ B, w.heap.size = B := ⟨_, rfl⟩
  obtain ⟨B2, hB2⟩ : ∃ B2, B + 1 = B2 := ⟨_, rfl⟩
  rw [hB, hB2] at HS0
  rw [hB]
  simp only [hB2]
  clear hB hB2
  generalize (w.alloc (.cells #[.slice ar (n + 1) cr, .slice ap n cp, .int .u64 v] 117)).alloc (.cells #[.slice pa n pc, .slice ta n tc] 50) = W1 at HS0 ⊢
  go_loopg [14] n (fun q x wr => ∃ k : Nat, k ≤ n ∧ q = n - k ∧ x = .int .i64 (k : Int) ∧ Hid (∀ j, j < k → fitB n rt g v P T p j = true) ∧ Hid (StFo w wr B B2 (.slice ar (n + 1) cr) (.slice ap n cp) (.int .u64 v) (.slice pa n pc) (.slice ta n tc)))
  case atStart => exact ⟨0, by omega, rfl, rfl, hid (fun j hj => absurd hj (by omega)), HS0⟩
  case round =>
    clear HS0
    obtain ⟨k, hk, rfl, rfl, HK, HS⟩ := hrel
    by_cases hlt : k < n
    · obtain ⟨hr, hg, hq, ht⟩ := HR.out
      obtain ⟨hrv, hgv, hqv, htv⟩ := HV.out
      obtain ⟨hL0, hL1⟩ := HL.out k hlt
      have HNX := hid (fun W (hb : Below w.heap.size w W) => onext_any n k (p % hfQ n k) (hfQ n k) ar ap pa ta (n + 1) cr cp pc n tc v P W hn hlt rfl (Nat.mod_lt _ (hfQ_pos n k)) (hq.kept hb))
      obtain ⟨br, orr, rfl, hrr⟩ := hr (by omega)
      obtain ⟨bp, op, rfl, hgr⟩ := hg (by omega)
      obtain ⟨bq, oq, rfl, hqr⟩ := hq (by omega)
      obtain ⟨bt, ot, rfl, htr⟩ := ht (by omega)
      obtain ⟨u0, u1⟩ := hqr k hlt
      obtain ⟨d0, d1, p0, p1⟩ := htr k hlt
      have cr1 := hrr k (by omega)
      have cg1 := hgr k hlt
      rw [hL0] at d0 p0
      rw [hL1] at d1 p1
      have hq0 : p % hfQ n k < hfQ n k := Nat.mod_lt _ (hfQ_pos n k)
      have hH := hfQ_all hlt
      have HL1 := hid (fun W (hb : Below w.heap.size w W) => leadsTo_any (n - k) (C k 0) (p % hfQ n k) (A k 0) (P k 0) (rt k) (T k 0) W (by omega) (p0.kept hb) (htv k 0) (by omega) (hqv k 0).1 (hqv k 0).2 (hrv k).1 (hrv k).2)
      have HL2 := hid (fun W (hb : Below w.heap.size w W) => leadsTo_any (n - k) (C k 1) (p % hfQ n k + hfQ n k) (A k 1) (P k 1) (rt k) (T k 1) W (by omega) (p1.kept hb) (htv k 1) (by omega) (hqv k 1).1 (hqv k 1).2 (hrv k).1 (hrv k).2)
      have HBT := hid (fun W => obetw_any (P k 0) (P k 1) (g k) W (hqv k 0).1 (hqv k 0).2 (hqv k 1).1 (hqv k 1).2 (hgv k).1 (hgv k).2)
      have HHO := hid (fun W => halfOf_any n k W hn hlt)
      have hnr := nxQ_rng (n := n) (p := p) (k := k) hqv v0 v1
      have HNM := hid (fun W => norm_any (nxQ n P v p k) W hnr.1 hnr.2)
      have hb1 := HS.out.bel
      rw [Nat.mul_comm 2 k] at u0 u1 d0 d1
      have u0 := (hb1.cell (World.block_lt_of_cell? w _ u0)).trans u0
      have u1 := (hb1.cell (World.block_lt_of_cell? w _ u1)).trans u1
      have d0 := (hb1.cell (World.block_lt_of_cell? w _ d0)).trans d0
      have d1 := (hb1.cell (World.block_lt_of_cell? w _ d1)).trans d1
      have cr1 := (hb1.cell (World.block_lt_of_cell? w _ cr1)).trans cr1
      have cg1 := (hb1.cell (World.block_lt_of_cell? w _ cg1)).trans cg1
      have hHl := hfQ_le (k := k) hn
      have HF1 : Hid ((climbQ (n - k) (p % hfQ n k) (P k 0) (T k 0) == nrm (rt k)) = false → fitB n rt g v P T p k = false) := hid fit_no1
      have HF2 : Hid ((climbQ (n - k) (p % hfQ n k + hfQ n k) (P k 1) (T k 1) == nrm (rt k)) = false → fitB n rt g v P T p k = false) := hid fit_no2
      have HF3 : Hid ((btQ (P k) (g k) == nrm (nxQ n P v p k)) = false → fitB n rt g v P T p k = false) := hid fit_no3
      have HF4 : Hid ((climbQ (n - k) (p % hfQ n k) (P k 0) (T k 0) == nrm (rt k)) = true → (climbQ (n - k) (p % hfQ n k + hfQ n k) (P k 1) (T k 1) == nrm (rt k)) = true → (btQ (P k) (g k) == nrm (nxQ n P v p k)) = true → fitB n rt g v P T p k = true) := hid fit_yes
      have hnx : (if k + 1 = n then v else P (k + 1) (p % hfQ n k / hfQ n (k + 1))) = nxQ n P v p k := rfl
      have hbq : addQ (P k 0) (mulQ (g k) (subQ (P k 1) (P k 0))) = btQ (P k) (g k) := rfl
      rw [hnx] at HNX
      rw [hbq] at HBT
      generalize (climbQ (n - k) (p % hfQ n k) (P k 0) (T k 0) == nrm (rt k)) = r1 at HL1 HF1 HF4
      generalize (climbQ (n - k) (p % hfQ n k + hfQ n k) (P k 1) (T k 1) == nrm (rt k)) = r2 at HL2 HF2 HF4
      have hbt := (addQ_rng (P k 0) (mulQ (g k) (subQ (P k 1) (P k 0))))
      rw [hbq] at hbt
      generalize btQ (P k) (g k) = bv at HBT HF3 HF4 hbt
      generalize nxQ n P v p k = nv at HNX HNM HF3 HF4 hnr
      obtain ⟨r3, hr3⟩ : ∃ r3, (bv == nrm nv) = r3 := ⟨_, rfl⟩
      rw [hr3] at HF3 HF4
      have hr4 : (bv != nrm nv) = !r3 := by rw [← hr3]; rfl
      have hsq : ((p % hfQ n k + hfQ n k : Nat) : Int) = ((p % hfQ n k : Nat) : Int) + ((hfQ n k : Nat) : Int) := by simp
      rw [hsq] at HL2
      have hmod : (p : Int) % ((hfQ n k : Nat) : Int) = ((p % hfQ n k : Nat) : Int) := by simp
      have hHp := hfQ_pos n k
      generalize p % hfQ n k = q at HL1 HL2 HNX hq0 hmod
      generalize hfQ n k = H at HL2 HHO hq0 hmod hHl hH hHp
      generalize P k 0 = x0 at HL1 HBT u0 
      generalize P k 1 = x1 at HL2 HBT u1
      generalize A k 0 = a0 at HL1 d0
      generalize A k 1 = a1 at HL2 d1
      generalize C k 0 = q0 at HL1 d0
      generalize C k 1 = q1 at HL2 d1
      generalize rt k = y at HL1 HL2 cr1
      generalize g k = gx at HBT cg1
      generalize n - k = m at HL1 HL2 d0 d1
      clear hr hg hq ht hrv hgv hqv htv hL0 hL1 hrr hgr hqr htr p0 p1 hnx hbq hsq hr3 hH
      obtain ⟨z0, z1, z2⟩ := HS.out.bx
      obtain ⟨y0, y1⟩ := HS.out.by'
      have hbx := bel_new wr (.cells #[.int .u64 x0, .int .u64 x1] 52)
      have HS2 := hid (HS.out.next hbx)
      have fc : FitC B B2 wr.heap.size bt (ot + k * 2) br (orr + k) bp (op + k) (.slice (some ⟨br, orr, none⟩) (n + 1) cr) (.slice (some ⟨bp, op, none⟩) n cp) (.int .u64 v) (.slice (some ⟨bq, oq, none⟩) n pc) (.slice (some ⟨bt, ot, none⟩) n tc) (.int .u64 x0) (.int .u64 x1) (.slice a0 m q0) (.slice a1 m q1) (.int .u64 y) (.int .u64 gx) (wr.alloc (.cells #[.int .u64 x0, .int .u64 x1] 52)) :=
        ⟨keepC hbx z0, keepC hbx z1, keepC hbx z2, keepC hbx y0, keepC hbx y1, by rw [World.cell?_alloc_new]; rfl, by rw [World.cell?_alloc_new]; rfl, keepC hbx d0, keepC hbx d1, keepC hbx cr1, keepC hbx cg1⟩
      have FC := hid fc
      have z1a := keepC hbx z1
      clear hbx fc d0 d1 cr1 cg1 hb1
      have k0 : (0 : Int) ≤ (k : Int) := by omega
      have k1 : (k : Int) < (n : Int) := by omega
      have k2 : (k : Int) < ((n + 1 : Nat) : Int) := by omega
      have k3 : (k : Int) < (n : Int) + 1 := by omega
      have hz : ((H : Int) == 0) = false := by rw [beq_eq_false_iff_ne]; omega
      have hz2 : ¬ (H : Int) = 0 := by omega
      go_wp2_with (go_at_call 82; refine (HHO.out _).mono ?_; rintro e w' ⟨rfl, hw⟩; obtain rfl := hw.symm)
      obtain ⟨B3, hB3⟩ : ∃ B3, wr.heap.size = B3 := ⟨_, rfl⟩
      rw [hB3] at FC ⊢
      clear HHO z0 z1 z2 z1a y0 y1 u0 u1 hB3
      generalize wr.alloc (.cells #[.int .u64 x0, .int .u64 x1] 52) = W2 at HS2 FC ⊢
      obtain ⟨SS, hSS⟩ : ∃ SS : World → Prop, SS = (FitC B B2 B3 bt (ot + k * 2) br (orr + k) bp (op + k) (.slice (some ⟨br, orr, none⟩) (n + 1) cr) (.slice (some ⟨bp, op, none⟩) n cp) (.int .u64 v) (.slice (some ⟨bq, oq, none⟩) n pc) (.slice (some ⟨bt, ot, none⟩) n tc) (.int .u64 x0) (.int .u64 x1) (.slice a0 m q0) (.slice a1 m q1) (.int .u64 y) (.int .u64 gx)) := ⟨_, rfl⟩
      have HSS : Hid (∀ W, (FitC B B2 B3 bt (ot + k * 2) br (orr + k) bp (op + k) (.slice (some ⟨br, orr, none⟩) (n + 1) cr) (.slice (some ⟨bp, op, none⟩) n cp) (.int .u64 v) (.slice (some ⟨bq, oq, none⟩) n pc) (.slice (some ⟨bt, ot, none⟩) n tc) (.int .u64 x0) (.int .u64 x1) (.slice a0 m q0) (.slice a1 m q1) (.int .u64 y) (.int .u64 gx)) W → SS W) := hid (fun W h => by rw [hSS]; exact h)
      have HSU : Hid (∀ W, SS W → (FitC B B2 B3 bt (ot + k * 2) br (orr + k) bp (op + k) (.slice (some ⟨br, orr, none⟩) (n + 1) cr) (.slice (some ⟨bp, op, none⟩) n cp) (.int .u64 v) (.slice (some ⟨bq, oq, none⟩) n pc) (.slice (some ⟨bt, ot, none⟩) n tc) (.int .u64 x0) (.int .u64 x1) (.slice a0 m q0) (.slice a1 m q1) (.int .u64 y) (.int .u64 gx)) W) := hid (fun W h => by rw [hSS] at h; exact h)
      clear hSS
      cases r1 with
      | false =>
        refine wp_region_grown SS (by kernel_rfl) (by kernel_rfl) (HSS.out _ ((FC.out) : (FitC B B2 B3 bt (ot + k * 2) br (orr + k) bp (op + k) (.slice (some ⟨br, orr, none⟩) (n + 1) cr) (.slice (some ⟨bp, op, none⟩) n cp) (.int .u64 v) (.slice (some ⟨bq, oq, none⟩) n pc) (.slice (some ⟨bt, ot, none⟩) n tc) (.int .u64 x0) (.int .u64 x1) (.slice a0 m q0) (.slice a1 m q1) (.int .u64 y) (.int .u64 gx)) _)) ?_
        haveI : Nonempty (QT W2 SS) := QT.ne (HSS.out _ ((FC.out) : (FitC B B2 B3 bt (ot + k * 2) br (orr + k) bp (op + k) (.slice (some ⟨br, orr, none⟩) (n + 1) cr) (.slice (some ⟨bp, op, none⟩) n cp) (.int .u64 v) (.slice (some ⟨bq, oq, none⟩) n pc) (.slice (some ⟨bt, ot, none⟩) n tc) (.int .u64 x0) (.int .u64 x1) (.slice a0 m q0) (.slice a1 m q1) (.int .u64 y) (.int .u64 gx)) _))
        have hc0 : ∀ t : QT W2 SS, t.w.cell? ⟨B, 0, none⟩ = some (.slice (some ⟨br, orr, none⟩) (n + 1) cr) := fun t => (HSU.out _ t.s).1
        have hc1 : ∀ t : QT W2 SS, t.w.cell? ⟨B, 1, none⟩ = some (.slice (some ⟨bp, op, none⟩) n cp) := fun t => (HSU.out _ t.s).2.1
        have hc2 : ∀ t : QT W2 SS, t.w.cell? ⟨B, 2, none⟩ = some (.int .u64 v) := fun t => (HSU.out _ t.s).2.2.1
        have hc3 : ∀ t : QT W2 SS, t.w.cell? ⟨B2, 0, none⟩ = some (.slice (some ⟨bq, oq, none⟩) n pc) := fun t => (HSU.out _ t.s).2.2.2.1
        have hc4 : ∀ t : QT W2 SS, t.w.cell? ⟨B2, 1, none⟩ = some (.slice (some ⟨bt, ot, none⟩) n tc) := fun t => (HSU.out _ t.s).2.2.2.2.1
        have hc5 : ∀ t : QT W2 SS, t.w.cell? ⟨B3, 0, none⟩ = some (.int .u64 x0) := fun t => (HSU.out _ t.s).2.2.2.2.2.1
        have hc6 : ∀ t : QT W2 SS, t.w.cell? ⟨B3, 1, none⟩ = some (.int .u64 x1) := fun t => (HSU.out _ t.s).2.2.2.2.2.2.1
        have hc7 : ∀ t : QT W2 SS, t.w.cell? ⟨bt, ot + k * 2, none⟩ = some (.slice a0 m q0) := fun t => (HSU.out _ t.s).2.2.2.2.2.2.2.1
        have hc8 : ∀ t : QT W2 SS, t.w.cell? ⟨bt, ot + k * 2 + 1, none⟩ = some (.slice a1 m q1) := fun t => (HSU.out _ t.s).2.2.2.2.2.2.2.2.1
        have hc9 : ∀ t : QT W2 SS, t.w.cell? ⟨br, orr + k, none⟩ = some (.int .u64 y) := fun t => (HSU.out _ t.s).2.2.2.2.2.2.2.2.2.1
        have hca : ∀ t : QT W2 SS, t.w.cell? ⟨bp, op + k, none⟩ = some (.int .u64 gx) := fun t => (HSU.out _ t.s).2.2.2.2.2.2.2.2.2.2
        have HBL : Hid (∀ t : QT W2 SS, Below w.heap.size w t.w) := hid (fun t => HS2.out.bel.trans (t.b.mono HS2.out.bel.size))
        have HKS : Hid (∀ (t : QT W2 SS) w', Below t.w.heap.size t.w w' → SS w') := hid (fun t w' hb => HSS.out _ (FitC.next (HSU.out _ t.s) hb))
        repeat (first | go_big_quiet_skip | (go_big_quiet_want; go_big_quiet_op; first | go_big_quiet_on | go_big_quiet_call (first | (go_at_call_of 68 (Value.int .i64 (q : Int)); exact Calls.grown_of (HL1.out _ (HBL.out _)) (HKS.out _)) | (go_at_call 68; exact Calls.grown_of (HL2.out _ (HBL.out _)) (HKS.out _)))))
        refine wpQuiet_nil ?_
        intro _ hw'
        obtain ⟨tq, hw''⟩ := hw'
        subst hw''
        have HSq : Hid (StFo w tq.w B B2 (.slice (some ⟨br, orr, none⟩) (n + 1) cr) (.slice (some ⟨bp, op, none⟩) n cp) (.int .u64 v) (.slice (some ⟨bq, oq, none⟩) n pc) (.slice (some ⟨bt, ot, none⟩) n tc)) := hid (HS2.out.next tq.b)
        have FCq := hid (HSU.out _ tq.s)
        clear hc0 hc1 hc2 hc3 hc4 hc5 hc6 hc7 hc8 hc9 hca HBL HKS
        obtain ⟨wq, hwq⟩ : ∃ wq, tq.w = wq := ⟨_, rfl⟩
        rw [hwq] at HSq FCq ⊢
        clear hwq
        clear tq
        clear this
        go_wp2_with fail
        go_ret
        exact ⟨ret_bool (allB_no hlt (HF1.out (by first | rfl | trivial))).symm, HSq.out.bel⟩
      | true =>
        cases r2 with
        | false =>
          refine wp_region_grown SS (by kernel_rfl) (by kernel_rfl) (HSS.out _ ((FC.out) : (FitC B B2 B3 bt (ot + k * 2) br (orr + k) bp (op + k) (.slice (some ⟨br, orr, none⟩) (n + 1) cr) (.slice (some ⟨bp, op, none⟩) n cp) (.int .u64 v) (.slice (some ⟨bq, oq, none⟩) n pc) (.slice (some ⟨bt, ot, none⟩) n tc) (.int .u64 x0) (.int .u64 x1) (.slice a0 m q0) (.slice a1 m q1) (.int .u64 y) (.int .u64 gx)) _)) ?_
          haveI : Nonempty (QT W2 SS) := QT.ne (HSS.out _ ((FC.out) : (FitC B B2 B3 bt (ot + k * 2) br (orr + k) bp (op + k) (.slice (some ⟨br, orr, none⟩) (n + 1) cr) (.slice (some ⟨bp, op, none⟩) n cp) (.int .u64 v) (.slice (some ⟨bq, oq, none⟩) n pc) (.slice (some ⟨bt, ot, none⟩) n tc) (.int .u64 x0) (.int .u64 x1) (.slice a0 m q0) (.slice a1 m q1) (.int .u64 y) (.int .u64 gx)) _))
          have hc0 : ∀ t : QT W2 SS, t.w.cell? ⟨B, 0, none⟩ = some (.slice (some ⟨br, orr, none⟩) (n + 1) cr) := fun t => (HSU.out _ t.s).1
          have hc1 : ∀ t : QT W2 SS, t.w.cell? ⟨B, 1, none⟩ = some (.slice (some ⟨bp, op, none⟩) n cp) := fun t => (HSU.out _ t.s).2.1
          have hc2 : ∀ t : QT W2 SS, t.w.cell? ⟨B, 2, none⟩ = some (.int .u64 v) := fun t => (HSU.out _ t.s).2.2.1
          have hc3 : ∀ t : QT W2 SS, t.w.cell? ⟨B2, 0, none⟩ = some (.slice (some ⟨bq, oq, none⟩) n pc) := fun t => (HSU.out _ t.s).2.2.2.1
          have hc4 : ∀ t : QT W2 SS, t.w.cell? ⟨B2, 1, none⟩ = some (.slice (some ⟨bt, ot, none⟩) n tc) := fun t => (HSU.out _ t.s).2.2.2.2.1
          have hc5 : ∀ t : QT W2 SS, t.w.cell? ⟨B3, 0, none⟩ = some (.int .u64 x0) := fun t => (HSU.out _ t.s).2.2.2.2.2.1
          have hc6 : ∀ t : QT W2 SS, t.w.cell? ⟨B3, 1, none⟩ = some (.int .u64 x1) := fun t => (HSU.out _ t.s).2.2.2.2.2.2.1
          have hc7 : ∀ t : QT W2 SS, t.w.cell? ⟨bt, ot + k * 2, none⟩ = some (.slice a0 m q0) := fun t => (HSU.out _ t.s).2.2.2.2.2.2.2.1
          have hc8 : ∀ t : QT W2 SS, t.w.cell? ⟨bt, ot + k * 2 + 1, none⟩ = some (.slice a1 m q1) := fun t => (HSU.out _ t.s).2.2.2.2.2.2.2.2.1
          have hc9 : ∀ t : QT W2 SS, t.w.cell? ⟨br, orr + k, none⟩ = some (.int .u64 y) := fun t => (HSU.out _ t.s).2.2.2.2.2.2.2.2.2.1
          have hca : ∀ t : QT W2 SS, t.w.cell? ⟨bp, op + k, none⟩ = some (.int .u64 gx) := fun t => (HSU.out _ t.s).2.2.2.2.2.2.2.2.2.2
          have HBL : Hid (∀ t : QT W2 SS, Below w.heap.size w t.w) := hid (fun t => HS2.out.bel.trans (t.b.mono HS2.out.bel.size))
          have HKS : Hid (∀ (t : QT W2 SS) w', Below t.w.heap.size t.w w' → SS w') := hid (fun t w' hb => HSS.out _ (FitC.next (HSU.out _ t.s) hb))
          repeat (first | go_big_quiet_skip | (go_big_quiet_want; go_big_quiet_op; first | go_big_quiet_on | go_big_quiet_call (first | (go_at_call_of 68 (Value.int .i64 (q : Int)); exact Calls.grown_of (HL1.out _ (HBL.out _)) (HKS.out _)) | (go_at_call 68; exact Calls.grown_of (HL2.out _ (HBL.out _)) (HKS.out _)))))
          refine wpQuiet_nil ?_
          intro _ hw'
          obtain ⟨tq, hw''⟩ := hw'
          subst hw''
          have HSq : Hid (StFo w tq.w B B2 (.slice (some ⟨br, orr, none⟩) (n + 1) cr) (.slice (some ⟨bp, op, none⟩) n cp) (.int .u64 v) (.slice (some ⟨bq, oq, none⟩) n pc) (.slice (some ⟨bt, ot, none⟩) n tc)) := hid (HS2.out.next tq.b)
          have FCq := hid (HSU.out _ tq.s)
          clear hc0 hc1 hc2 hc3 hc4 hc5 hc6 hc7 hc8 hc9 hca HBL HKS
          obtain ⟨wq, hwq⟩ : ∃ wq, tq.w = wq := ⟨_, rfl⟩
          rw [hwq] at HSq FCq ⊢
          clear hwq
          clear tq
          clear this
          go_wp2_with fail
          go_ret
          exact ⟨ret_bool (allB_no hlt (HF2.out (by first | rfl | trivial))).symm, HSq.out.bel⟩
        | true =>
          refine wp_region_grown SS (by kernel_rfl) (by kernel_rfl) (HSS.out _ ((FC.out) : (FitC B B2 B3 bt (ot + k * 2) br (orr + k) bp (op + k) (.slice (some ⟨br, orr, none⟩) (n + 1) cr) (.slice (some ⟨bp, op, none⟩) n cp) (.int .u64 v) (.slice (some ⟨bq, oq, none⟩) n pc) (.slice (some ⟨bt, ot, none⟩) n tc) (.int .u64 x0) (.int .u64 x1) (.slice a0 m q0) (.slice a1 m q1) (.int .u64 y) (.int .u64 gx)) _)) ?_
          haveI : Nonempty (QT W2 SS) := QT.ne (HSS.out _ ((FC.out) : (FitC B B2 B3 bt (ot + k * 2) br (orr + k) bp (op + k) (.slice (some ⟨br, orr, none⟩) (n + 1) cr) (.slice (some ⟨bp, op, none⟩) n cp) (.int .u64 v) (.slice (some ⟨bq, oq, none⟩) n pc) (.slice (some ⟨bt, ot, none⟩) n tc) (.int .u64 x0) (.int .u64 x1) (.slice a0 m q0) (.slice a1 m q1) (.int .u64 y) (.int .u64 gx)) _))
          have hc0 : ∀ t : QT W2 SS, t.w.cell? ⟨B, 0, none⟩ = some (.slice (some ⟨br, orr, none⟩) (n + 1) cr) := fun t => (HSU.out _ t.s).1
          have hc1 : ∀ t : QT W2 SS, t.w.cell? ⟨B, 1, none⟩ = some (.slice (some ⟨bp, op, none⟩) n cp) := fun t => (HSU.out _ t.s).2.1
          have hc2 : ∀ t : QT W2 SS, t.w.cell? ⟨B, 2, none⟩ = some (.int .u64 v) := fun t => (HSU.out _ t.s).2.2.1
          have hc3 : ∀ t : QT W2 SS, t.w.cell? ⟨B2, 0, none⟩ = some (.slice (some ⟨bq, oq, none⟩) n pc) := fun t => (HSU.out _ t.s).2.2.2.1
          have hc4 : ∀ t : QT W2 SS, t.w.cell? ⟨B2, 1, none⟩ = some (.slice (some ⟨bt, ot, none⟩) n tc) := fun t => (HSU.out _ t.s).2.2.2.2.1
          have hc5 : ∀ t : QT W2 SS, t.w.cell? ⟨B3, 0, none⟩ = some (.int .u64 x0) := fun t => (HSU.out _ t.s).2.2.2.2.2.1
          have hc6 : ∀ t : QT W2 SS, t.w.cell? ⟨B3, 1, none⟩ = some (.int .u64 x1) := fun t => (HSU.out _ t.s).2.2.2.2.2.2.1
          have hc7 : ∀ t : QT W2 SS, t.w.cell? ⟨bt, ot + k * 2, none⟩ = some (.slice a0 m q0) := fun t => (HSU.out _ t.s).2.2.2.2.2.2.2.1
          have hc8 : ∀ t : QT W2 SS, t.w.cell? ⟨bt, ot + k * 2 + 1, none⟩ = some (.slice a1 m q1) := fun t => (HSU.out _ t.s).2.2.2.2.2.2.2.2.1
          have hc9 : ∀ t : QT W2 SS, t.w.cell? ⟨br, orr + k, none⟩ = some (.int .u64 y) := fun t => (HSU.out _ t.s).2.2.2.2.2.2.2.2.2.1
          have hca : ∀ t : QT W2 SS, t.w.cell? ⟨bp, op + k, none⟩ = some (.int .u64 gx) := fun t => (HSU.out _ t.s).2.2.2.2.2.2.2.2.2.2
          have HBL : Hid (∀ t : QT W2 SS, Below w.heap.size w t.w) := hid (fun t => HS2.out.bel.trans (t.b.mono HS2.out.bel.size))
          have HKS : Hid (∀ (t : QT W2 SS) w', Below t.w.heap.size t.w w' → SS w') := hid (fun t w' hb => HSS.out _ (FitC.next (HSU.out _ t.s) hb))
          repeat (first | go_big_quiet_skip | (go_big_quiet_want; go_big_quiet_op; first | go_big_quiet_on | go_big_quiet_call (first | (go_at_call_of 68 (Value.int .i64 (q : Int)); exact Calls.grown_of (HL1.out _ (HBL.out _)) (HKS.out _)) | (go_at_call 68; exact Calls.grown_of (HL2.out _ (HBL.out _)) (HKS.out _)))))
          refine wpQuiet_nil ?_
          intro _ hw'
          obtain ⟨tq, hw''⟩ := hw'
          subst hw''
          have HSq : Hid (StFo w tq.w B B2 (.slice (some ⟨br, orr, none⟩) (n + 1) cr) (.slice (some ⟨bp, op, none⟩) n cp) (.int .u64 v) (.slice (some ⟨bq, oq, none⟩) n pc) (.slice (some ⟨bt, ot, none⟩) n tc)) := hid (HS2.out.next tq.b)
          have FCq := hid (HSU.out _ tq.s)
          clear hc0 hc1 hc2 hc3 hc4 hc5 hc6 hc7 hc8 hc9 hca HBL HKS
          obtain ⟨wq, hwq⟩ : ∃ wq, tq.w = wq := ⟨_, rfl⟩
          rw [hwq] at HSq FCq ⊢
          clear hwq
          clear tq
          clear this
          clear HS2 FC HL1 HL2 HF1 HF2
          have HSp := HSq
          have FCp := FCq
          obtain ⟨wp, hwp⟩ : ∃ wp, wq = wp := ⟨_, rfl⟩
          rw [hwp] at HSp FCp ⊢
          clear HSq FCq hwp
          clear wq
          go_wp2_with fail
          cases r3 with
          | false =>
            have hr4' : (bv != nrm nv) = true := hr4
            clear hr4
            refine wp_region_grown SS (by kernel_rfl) (by kernel_rfl) (HSS.out _ ((FCp.out) : (FitC B B2 B3 bt (ot + k * 2) br (orr + k) bp (op + k) (.slice (some ⟨br, orr, none⟩) (n + 1) cr) (.slice (some ⟨bp, op, none⟩) n cp) (.int .u64 v) (.slice (some ⟨bq, oq, none⟩) n pc) (.slice (some ⟨bt, ot, none⟩) n tc) (.int .u64 x0) (.int .u64 x1) (.slice a0 m q0) (.slice a1 m q1) (.int .u64 y) (.int .u64 gx)) _)) ?_
            haveI : Nonempty (QT wp SS) := QT.ne (HSS.out _ ((FCp.out) : (FitC B B2 B3 bt (ot + k * 2) br (orr + k) bp (op + k) (.slice (some ⟨br, orr, none⟩) (n + 1) cr) (.slice (some ⟨bp, op, none⟩) n cp) (.int .u64 v) (.slice (some ⟨bq, oq, none⟩) n pc) (.slice (some ⟨bt, ot, none⟩) n tc) (.int .u64 x0) (.int .u64 x1) (.slice a0 m q0) (.slice a1 m q1) (.int .u64 y) (.int .u64 gx)) _))
            have hc0 : ∀ t : QT wp SS, t.w.cell? ⟨B, 0, none⟩ = some (.slice (some ⟨br, orr, none⟩) (n + 1) cr) := fun t => (HSU.out _ t.s).1
            have hc1 : ∀ t : QT wp SS, t.w.cell? ⟨B, 1, none⟩ = some (.slice (some ⟨bp, op, none⟩) n cp) := fun t => (HSU.out _ t.s).2.1
            have hc2 : ∀ t : QT wp SS, t.w.cell? ⟨B, 2, none⟩ = some (.int .u64 v) := fun t => (HSU.out _ t.s).2.2.1
            have hc3 : ∀ t : QT wp SS, t.w.cell? ⟨B2, 0, none⟩ = some (.slice (some ⟨bq, oq, none⟩) n pc) := fun t => (HSU.out _ t.s).2.2.2.1
            have hc4 : ∀ t : QT wp SS, t.w.cell? ⟨B2, 1, none⟩ = some (.slice (some ⟨bt, ot, none⟩) n tc) := fun t => (HSU.out _ t.s).2.2.2.2.1
            have hc5 : ∀ t : QT wp SS, t.w.cell? ⟨B3, 0, none⟩ = some (.int .u64 x0) := fun t => (HSU.out _ t.s).2.2.2.2.2.1
            have hc6 : ∀ t : QT wp SS, t.w.cell? ⟨B3, 1, none⟩ = some (.int .u64 x1) := fun t => (HSU.out _ t.s).2.2.2.2.2.2.1
            have hc7 : ∀ t : QT wp SS, t.w.cell? ⟨bt, ot + k * 2, none⟩ = some (.slice a0 m q0) := fun t => (HSU.out _ t.s).2.2.2.2.2.2.2.1
            have hc8 : ∀ t : QT wp SS, t.w.cell? ⟨bt, ot + k * 2 + 1, none⟩ = some (.slice a1 m q1) := fun t => (HSU.out _ t.s).2.2.2.2.2.2.2.2.1
            have hc9 : ∀ t : QT wp SS, t.w.cell? ⟨br, orr + k, none⟩ = some (.int .u64 y) := fun t => (HSU.out _ t.s).2.2.2.2.2.2.2.2.2.1
            have hca : ∀ t : QT wp SS, t.w.cell? ⟨bp, op + k, none⟩ = some (.int .u64 gx) := fun t => (HSU.out _ t.s).2.2.2.2.2.2.2.2.2.2
            have HBL : Hid (∀ t : QT wp SS, Below w.heap.size w t.w) := hid (fun t => HSp.out.bel.trans (t.b.mono HSp.out.bel.size))
            have HKS : Hid (∀ (t : QT wp SS) w', Below t.w.heap.size t.w w' → SS w') := hid (fun t w' hb => HSS.out _ (FitC.next (HSU.out _ t.s) hb))
            repeat (first | go_big_quiet_skip | (go_big_quiet_want; go_big_quiet_op; first | go_big_quiet_on | go_big_quiet_call (first | (go_at_call 102; exact Calls.grown_of (HBT.out _) (HKS.out _)) | (go_at_call 103; exact Calls.grown_of (HNX.out _ (HBL.out _)) (HKS.out _)) | (go_at_call 48; exact Calls.grown_same (HNM.out _)))))
            refine wpQuiet_nil ?_
            intro _ hw'
            obtain ⟨tq, hw''⟩ := hw'
            subst hw''
            have HSq : Hid (StFo w tq.w B B2 (.slice (some ⟨br, orr, none⟩) (n + 1) cr) (.slice (some ⟨bp, op, none⟩) n cp) (.int .u64 v) (.slice (some ⟨bq, oq, none⟩) n pc) (.slice (some ⟨bt, ot, none⟩) n tc)) := hid (HSp.out.next tq.b)
            have FCq := hid (HSU.out _ tq.s)
            clear hc0 hc1 hc2 hc3 hc4 hc5 hc6 hc7 hc8 hc9 hca HBL HKS
            obtain ⟨wq, hwq⟩ : ∃ wq, tq.w = wq := ⟨_, rfl⟩
            rw [hwq] at HSq FCq ⊢
            clear hwq
            clear tq
            clear this
            go_wp2_with fail
            go_ret
            exact ⟨ret_bool (allB_no hlt (HF3.out (by first | rfl | trivial))).symm, HSq.out.bel⟩
          | true =>
            have hr4' : (bv != nrm nv) = false := hr4
            clear hr4
            refine wp_region_grown SS (by kernel_rfl) (by kernel_rfl) (HSS.out _ ((FCp.out) : (FitC B B2 B3 bt (ot + k * 2) br (orr + k) bp (op + k) (.slice (some ⟨br, orr, none⟩) (n + 1) cr) (.slice (some ⟨bp, op, none⟩) n cp) (.int .u64 v) (.slice (some ⟨bq, oq, none⟩) n pc) (.slice (some ⟨bt, ot, none⟩) n tc) (.int .u64 x0) (.int .u64 x1) (.slice a0 m q0) (.slice a1 m q1) (.int .u64 y) (.int .u64 gx)) _)) ?_
            haveI : Nonempty (QT wp SS) := QT.ne (HSS.out _ ((FCp.out) : (FitC B B2 B3 bt (ot + k * 2) br (orr + k) bp (op + k) (.slice (some ⟨br, orr, none⟩) (n + 1) cr) (.slice (some ⟨bp, op, none⟩) n cp) (.int .u64 v) (.slice (some ⟨bq, oq, none⟩) n pc) (.slice (some ⟨bt, ot, none⟩) n tc) (.int .u64 x0) (.int .u64 x1) (.slice a0 m q0) (.slice a1 m q1) (.int .u64 y) (.int .u64 gx)) _))
            have hc0 : ∀ t : QT wp SS, t.w.cell? ⟨B, 0, none⟩ = some (.slice (some ⟨br, orr, none⟩) (n + 1) cr) := fun t => (HSU.out _ t.s).1
            have hc1 : ∀ t : QT wp SS, t.w.cell? ⟨B, 1, none⟩ = some (.slice (some ⟨bp, op, none⟩) n cp) := fun t => (HSU.out _ t.s).2.1
            have hc2 : ∀ t : QT wp SS, t.w.cell? ⟨B, 2, none⟩ = some (.int .u64 v) := fun t => (HSU.out _ t.s).2.2.1
            have hc3 : ∀ t : QT wp SS, t.w.cell? ⟨B2, 0, none⟩ = some (.slice (some ⟨bq, oq, none⟩) n pc) := fun t => (HSU.out _ t.s).2.2.2.1
            have hc4 : ∀ t : QT wp SS, t.w.cell? ⟨B2, 1, none⟩ = some (.slice (some ⟨bt, ot, none⟩) n tc) := fun t => (HSU.out _ t.s).2.2.2.2.1
            have hc5 : ∀ t : QT wp SS, t.w.cell? ⟨B3, 0, none⟩ = some (.int .u64 x0) := fun t => (HSU.out _ t.s).2.2.2.2.2.1
            have hc6 : ∀ t : QT wp SS, t.w.cell? ⟨B3, 1, none⟩ = some (.int .u64 x1) := fun t => (HSU.out _ t.s).2.2.2.2.2.2.1
            have hc7 : ∀ t : QT wp SS, t.w.cell? ⟨bt, ot + k * 2, none⟩ = some (.slice a0 m q0) := fun t => (HSU.out _ t.s).2.2.2.2.2.2.2.1
            have hc8 : ∀ t : QT wp SS, t.w.cell? ⟨bt, ot + k * 2 + 1, none⟩ = some (.slice a1 m q1) := fun t => (HSU.out _ t.s).2.2.2.2.2.2.2.2.1
            have hc9 : ∀ t : QT wp SS, t.w.cell? ⟨br, orr + k, none⟩ = some (.int .u64 y) := fun t => (HSU.out _ t.s).2.2.2.2.2.2.2.2.2.1
            have hca : ∀ t : QT wp SS, t.w.cell? ⟨bp, op + k, none⟩ = some (.int .u64 gx) := fun t => (HSU.out _ t.s).2.2.2.2.2.2.2.2.2.2
            have HBL : Hid (∀ t : QT wp SS, Below w.heap.size w t.w) := hid (fun t => HSp.out.bel.trans (t.b.mono HSp.out.bel.size))
            have HKS : Hid (∀ (t : QT wp SS) w', Below t.w.heap.size t.w w' → SS w') := hid (fun t w' hb => HSS.out _ (FitC.next (HSU.out _ t.s) hb))
            repeat (first | go_big_quiet_skip | (go_big_quiet_want; go_big_quiet_op; first | go_big_quiet_on | go_big_quiet_call (first | (go_at_call 102; exact Calls.grown_of (HBT.out _) (HKS.out _)) | (go_at_call 103; exact Calls.grown_of (HNX.out _ (HBL.out _)) (HKS.out _)) | (go_at_call 48; exact Calls.grown_same (HNM.out _)))))
            refine wpQuiet_nil ?_
            intro _ hw'
            obtain ⟨tq, hw''⟩ := hw'
            subst hw''
            have HSq : Hid (StFo w tq.w B B2 (.slice (some ⟨br, orr, none⟩) (n + 1) cr) (.slice (some ⟨bp, op, none⟩) n cp) (.int .u64 v) (.slice (some ⟨bq, oq, none⟩) n pc) (.slice (some ⟨bt, ot, none⟩) n tc)) := hid (HSp.out.next tq.b)
            have FCq := hid (HSU.out _ tq.s)
            clear hc0 hc1 hc2 hc3 hc4 hc5 hc6 hc7 hc8 hc9 hca HBL HKS
            obtain ⟨wq, hwq⟩ : ∃ wq, tq.w = wq := ⟨_, rfl⟩
            rw [hwq] at HSq FCq ⊢
            clear hwq
            clear tq
            clear this
            have HK2 : Hid (∀ j, j < k + 1 → fitB n rt g v P T p j = true) := hid (fun j hj => by
              by_cases e : j = k
              · rw [e]; exact HF4.out (by first | rfl | trivial) (by first | rfl | trivial) (by first | rfl | trivial)
              · exact HK.out j (by omega))
            clear HK
            go_wp2_with fail
            go_roundg (n - (k + 1))
            case measure => go_light; omega
            case rel => exact ⟨k + 1, by omega, rfl, by go_num, HK2, HSq⟩
    · have e : k = n := by omega
      subst e
      go_wp2_with fail
      go_ret
      exact ⟨ret_bool (allB_iff.2 HK.out).symm, HS.out.bel⟩

end Go.Proofs.YtbchbmelofojkaaGreatDoor

/-
  A contract of package open's Look, for every input; it makes new blocks and writes nothing that was there.
-/
namespace Go.Proofs.YtbchbmelofojkaaGreatDoor
open Go.RowKit
set_option linter.unusedVariables false
attribute [local go_sem ↓] Go.wp_at_zero Go.wp_at_succ

/-- The arguments may be. -/
def argOk (n m : Nat) (p : Nat → Int) : Prop := 1 ≤ n ∧ n ≤ 8 ∧ plOk m n p
/-- What Look answers. -/
def LookOut (n : Nat) (root : Int) (g : Nat → Int) (m : Nat) (p : Nat → Int) (nr : Nat) (R : Nat → Int) (v : Int) (o : OQ) (r : Bool) (x : Int) : Prop :=
  (¬ argOk n m p ∧ r = false ∧ x = 1) ∨ (argOk n m p ∧ ¬ ofmQ nr n m o ∧ r = false ∧ x = 4) ∨ (argOk n m p ∧ ofmQ nr n m o ∧ r = lookB n root g m (fun j => (p j).toNat) R v o ∧ x = 0)
theorem LookOut.same {n : Nat} {root : Int} {g : Nat → Int} {m : Nat} {p : Nat → Int} {nr : Nat} {R : Nat → Int} {v : Int} {o : OQ} {r r' : Bool} {x x' : Int} (h : LookOut n root g m p nr R v o r x) (h' : LookOut n root g m p nr R v o r' x') : r = r' ∧ x = x' := by
  rcases h with ⟨a, rfl, rfl⟩ | ⟨a, b, rfl, rfl⟩ | ⟨a, b, rfl, rfl⟩ <;> rcases h' with ⟨a', rfl, rfl⟩ | ⟨a', b', rfl, rfl⟩ | ⟨a', b', rfl, rfl⟩ <;> first | exact ⟨rfl, rfl⟩ | exact absurd a' a | exact absurd a a' | exact absurd b' b | exact absurd b b'
theorem look_not {n : Nat} {root : Int} {g : Nat → Int} {m : Nat} {pl : Nat → Nat} {R : Nat → Int} {v : Int} {o : OQ} (h : (climbQ 0 0 v (fun _ => 0) == nrm (R (n - 1))) = false) : lookB n root g m pl R v o = false := by
  unfold lookB
  have e : climbQ 0 0 v (fun _ => 0) = prQ v 0 := rfl
  rw [e] at h
  rw [h]; rfl
theorem look_is {n : Nat} {root : Int} {g : Nat → Int} {m : Nat} {pl : Nat → Nat} {R : Nat → Int} {v : Int} {o : OQ} (h : (climbQ 0 0 v (fun _ => 0) == nrm (R (n - 1))) = true) : lookB n root g m pl R v o = allB m fun i => allB n fun k => fitB n (rtQ root R) g v (o.P i) (o.T i) (pl i) k := by
  unfold lookB
  have e : climbQ 0 0 v (fun _ => 0) = prQ v 0 := rfl
  rw [e] at h
  rw [h]; rfl
/-- What holds of the world behind the claim: its box, the list of all roots, the opening's box. -/
structure StL (w W : World) (B X : Nat) (vr vv vl vp : Value) (gR cR n : Nat) (rt : Nat → Int) : Prop where
  bel : Below w.heap.size w W
  bo : Bx3 W B vr vv vl
  bc : Bx3 W X (.slice (some ⟨gR, 0, none⟩) (n + 1) cR) vp vv
  row : Row W gR 0 (n + 1) rt
theorem StL.next {w W W' : World} {B X : Nat} {vr vv vl vp : Value} {gR cR n : Nat} {rt : Nat → Int} (h : StL w W B X vr vv vl vp gR cR n rt) (hb : Below W.heap.size W W') : StL w W' B X vr vv vl vp gR cR n rt :=
  ⟨h.bel.trans (hb.mono h.bel.size), h.bo.kept hb, h.bc.kept hb, h.row.kept hb (h.row.lt (by omega))⟩
theorem one_root (root : Int) : ∀ u ∈ [Value.int .u64 root], u.oneCell' = true := by intro u hu; simp at hu; subst hu; rfl
theorem row_root {w : World} {base g n cap : Nat} {root : Int} {R : Nat → Int} (h : w.ownsRow base 31 1 (.slice (some ⟨g, 0, none⟩) (1 + n) cap) (1 + n) ([.int .u64 root] ++ cellsOf n R)) : Row w g 0 (n + 1) (rtQ root R) := fun j hj => by
  rw [Nat.zero_add, h.cellAt j (by omega)]
  match j, hj with
  | 0, _ => rfl
  | j + 1, hj =>
    rw [List.getElem?_append_right (by simp), show [Value.int IntKind.u64 root].length = 1 from rfl, Nat.add_sub_cancel, cellsOf_at n R j (by omega)]
    rfl
theorem rowA {w : World} {b o n : Nat} {f : Nat → Int} {x : Obj} (hn : 0 < n) (h : Row w b o n f) : Row (w.alloc x) b o n f := h.kept (bel_new w x) (h.lt hn)
/-- What the lists' growing leaves. -/
theorem grown_cell {w w' : World} {g : Option Nat} (hg : w.grownBy w' g) {a : Addr} {v : Value} (h : w.cell? a = some v) (hne : some a.block ≠ g) : w'.cell? a = some v := hg.cell h hne
theorem grown_frozen {w w' : World} {g : Option Nat} (hg : w.grownBy w' g) {a : Addr} {b : Bool} (h : w.frozen? a = b) (hl : a.block < w.heap.size) (hne : some a.block ≠ g) : w'.frozen? a = b := (World.frozen?_of_block (hg.block _ hl hne)).trans h
/-- A box of three cells that was made, not yet written. -/
structure Zero3 (W : World) (X : Nat) (p q r : Value) : Prop where
  c : Bx3 W X p q r
  f : ∀ j, j < 3 → W.frozen? ⟨X, j, none⟩ = false
theorem Zero3.kept {W W' : World} {X : Nat} {p q r : Value} (h : Zero3 W X p q r) (hb : Below W.heap.size W W') : Zero3 W' X p q r := ⟨h.c.kept hb, fun j hj => (hb.frozen (p := ⟨X, j, none⟩) (show X < W.heap.size from World.block_lt_of_cell? W _ h.c.c0)).trans (h.f j hj)⟩
theorem Zero3.new (W : World) (p q r : Value) (t : TypeId) : Zero3 (W.alloc (.cells #[p, q, r] t)) W.heap.size p q r := ⟨Bx3.new W p q r t, fun j _ => by rw [World.frozen?_alloc_new]⟩
theorem cellD {W : World} {a : Addr} {v : Value} (h : W.cell? a = some v) : W.drew.cell? a = some v := h
theorem own_lit2 (W : World) (x : Obj) (root : Int) : ((W.alloc x).alloc (.cells #[.int .u64 root] 31)).ownsRow W.heap.size 31 1 (.slice (some ⟨W.heap.size + 1, 0, none⟩) 1 1) 1 [.int .u64 root] := by
  have e : (W.alloc x).heap.size = W.heap.size + 1 := by simp
  have h := World.ownsRow_lit (base := W.heap.size) (size := 1) (e := 31) (W.alloc x) #[.int .u64 root] 1 (by simp) (by unfold maxLen; omega) rfl
  rw [e] at h
  exact h
theorem Zero3.dr {W : World} {X : Nat} {p q r : Value} (h : Zero3 W X p q r) : Zero3 W.drew X p q r := ⟨⟨h.c.c0, h.c.c1, h.c.c2⟩, h.f⟩
theorem Zero3.second (W : World) (p q r : Value) (t : TypeId) (x : Obj) : Zero3 ((W.alloc x).alloc (.cells #[p, q, r] t)) (W.heap.size + 1) p q r := by
  have e : (W.alloc x).heap.size = W.heap.size + 1 := by simp
  rw [← e]; exact Zero3.new _ p q r t
theorem Zero3.grown {W W' : World} {X g : Nat} {p q r : Value} (h : Zero3 W X p q r) (hg : W.grownBy W' (some g)) (hne : X ≠ g) : Zero3 W' X p q r := by
  have hl : X < W.heap.size := World.block_lt_of_cell? W _ h.c.c0
  have hn : some X ≠ some g := fun e => hne (Option.some.inj e)
  exact ⟨⟨hg.cell h.c.c0 hn, hg.cell h.c.c1 hn, hg.cell h.c.c2 hn⟩, fun j hj => (World.frozen?_of_block (hg.block X hl hn)).trans (h.f j hj)⟩
theorem Bx3.grown {W W' : World} {X g : Nat} {p q r : Value} (h : Bx3 W X p q r) (hg : W.grownBy W' (some g)) (hne : X ≠ g) : Bx3 W' X p q r := by
  have hn : some X ≠ some g := fun e => hne (Option.some.inj e)
  exact ⟨hg.cell h.c0 hn, hg.cell h.c1 hn, hg.cell h.c2 hn⟩
theorem setB3 {w6 : World} {X : Nat} {p q r p0 q0 r0 : Value} (h0 : w6.cell? ⟨X, 0, none⟩ = some p0) (h1 : w6.cell? ⟨X, 1, none⟩ = some q0) (h2 : w6.cell? ⟨X, 2, none⟩ = some r0) :
    Bx3 (((w6.setCell ⟨X, 0, none⟩ p).setCell ⟨X, 1, none⟩ q).setCell ⟨X, 2, none⟩ r) X p q r := by
  refine ⟨?_, ?_, ?_⟩
  · rw [World.cell?_setCell_other _ _ _ _ (by intro e; simp at e), World.cell?_setCell_other _ _ _ _ (by intro e; simp at e), World.cell?_setCell_same _ _ _ h0]
  · rw [World.cell?_setCell_other _ _ _ _ (by intro e; simp at e), World.cell?_setCell_same _ _ _ (by rw [World.cell?_setCell_other _ _ _ _ (by intro e; simp at e)]; exact h1)]
  · rw [World.cell?_setCell_same _ _ _ (by rw [World.cell?_setCell_other _ _ _ _ (by intro e; simp at e), World.cell?_setCell_other _ _ _ _ (by intro e; simp at e)]; exact h2)]


theorem cell_set3 {W : World} {B X i : Nat} {u a b c : Value} (h : W.cell? ⟨B, i, none⟩ = some u) (hne : B ≠ X) : (((W.setCell ⟨X, 0, none⟩ a).setCell ⟨X, 1, none⟩ b).setCell ⟨X, 2, none⟩ c).cell? ⟨B, i, none⟩ = some u := by
  rw [World.cell?_setCell_other _ _ _ _ (by intro e; simp only [Addr.mk.injEq] at e; exact hne e.1.symm), World.cell?_setCell_other _ _ _ _ (by intro e; simp only [Addr.mk.injEq] at e; exact hne e.1.symm), World.cell?_setCell_other _ _ _ _ (by intro e; simp only [Addr.mk.injEq] at e; exact hne e.1.symm)]; exact h
theorem Bx3.set {W : World} {B X j : Nat} {p q r u : Value} (h : Bx3 W B p q r) (hne : B ≠ X) : Bx3 (W.setCell ⟨X, j, none⟩ u) B p q r :=
  ⟨by rw [World.cell?_setCell_other _ _ _ _ (by intro e; simp only [Addr.mk.injEq] at e; exact hne e.1.symm)]; exact h.c0, by rw [World.cell?_setCell_other _ _ _ _ (by intro e; simp only [Addr.mk.injEq] at e; exact hne e.1.symm)]; exact h.c1, by rw [World.cell?_setCell_other _ _ _ _ (by intro e; simp only [Addr.mk.injEq] at e; exact hne e.1.symm)]; exact h.c2⟩
theorem Row.set {W : World} {b n X j : Nat} {f : Nat → Int} {u : Value} (h : Row W b 0 n f) (hne : b ≠ X) : Row (W.setCell ⟨X, j, none⟩ u) b 0 n f := fun i hi => by
  rw [World.cell?_setCell_other _ _ _ _ (by intro e; simp only [Addr.mk.injEq] at e; exact hne e.1.symm)]; exact h i hi
section
variable {w W3 W' w6 : World} {B X g0 g6 c6 n nr : Nat} {vr vv vl vp p q r : Value} {root : Int} {R : Nat → Int}
theorem claim_set (hbel : Below w.heap.size w W3) (hW : Below W3.heap.size W3 W') (hg : W'.grownBy w6 (some g0)) (hg0 : W3.heap.size ≤ g0) (hX : W3.heap.size ≤ X) (hXg : X ≠ g0) (hat : some g0 = some g6 ∨ g6 = W'.heap.size) (z6 : Zero3 w6 X p q r) (hXl : X < W'.heap.size) (bo : Bx3 W3 B vr vv vl) (hn : nr = n)
    (hown : w6.ownsRow W3.heap.size 31 1 (.slice (some ⟨g6, 0, none⟩) (1 + nr) c6) (1 + nr) ([.int .u64 root] ++ cellsOf nr R)) :
    StL w (((w6.setCell ⟨X, 0, none⟩ (.slice (some ⟨g6, 0, none⟩) (1 + nr) c6)).setCell ⟨X, 1, none⟩ vp).setCell ⟨X, 2, none⟩ vv) B X vr vv vl vp g6 c6 n (rtQ root R) := by
  subst hn
  have hB : B < W3.heap.size := World.block_lt_of_cell? W3 _ bo.c0
  have hgX : g6 ≠ X := by
    rcases hat with e | e
    · have := Option.some.inj e; omega
    · omega
  have h6 : Below W3.heap.size W3 w6 := hW.grown hg hW.size (by intro k hk; have := Option.some.inj hk; omega)
  rw [show (Value.slice (some ⟨g6, 0, none⟩) (1 + nr) c6) = .slice (some ⟨g6, 0, none⟩) (nr + 1) c6 from by rw [Nat.add_comm]]
  refine ⟨hbel.trans ((((h6.setCell hX _).setCell hX _).setCell hX _).mono hbel.size), ?_, setB3 z6.c.c0 z6.c.c1 z6.c.c2, ?_⟩
  · exact (((((bo.kept hW).grown hg (by omega)).set (by omega)).set (by omega)).set (by omega))
  · exact ((row_root hown).set hgX).set hgX |>.set hgX
theorem claim_two {x y : Obj} (hbel : Below w.heap.size w W3) (hg : ((W3.alloc x).alloc y).drew.grownBy w6 (Value.slice (some ⟨g0, 0, none⟩) 1 1).ownBlock) (hat : (Value.slice (some ⟨g0, 0, none⟩) 1 1).ownBlock = some g6 ∨ g6 = ((W3.alloc x).alloc y).drew.heap.size) (hgX : (g0 = W3.heap.size ∧ X = W3.heap.size + 1) ∨ (g0 = W3.heap.size + 1 ∧ X = W3.heap.size)) (z6 : Zero3 w6 X p q r) (bo : Bx3 W3 B vr vv vl) (hn : nr = n)
    (hown : w6.ownsRow W3.heap.size 31 1 (.slice (some ⟨g6, 0, none⟩) (1 + nr) c6) (1 + nr) ([.int .u64 root] ++ cellsOf nr R)) :
    StL w (((w6.setCell ⟨X, 0, none⟩ (.slice (some ⟨g6, 0, none⟩) (1 + nr) c6)).setCell ⟨X, 1, none⟩ vp).setCell ⟨X, 2, none⟩ vv) B X vr vv vl vp g6 c6 n (rtQ root R) := by
  have hb1 := bel_new W3 x
  have hb2 := bel_new (W3.alloc x) y
  have hsz : ((W3.alloc x).alloc y).drew.heap.size = W3.heap.size + 2 := by show ((W3.alloc x).alloc y).heap.size = _; simp
  have k1 : W3.heap.size ≤ g0 := by omega
  have k2 : W3.heap.size ≤ X := by omega
  have k3 : X ≠ g0 := by omega
  have k4 : X < ((W3.alloc x).alloc y).drew.heap.size := by omega
  exact claim_set (W' := ((W3.alloc x).alloc y).drew) (g0 := g0) hbel (hb1.trans (hb2.mono hb1.size)).drew hg k1 k2 k3 hat z6 k4 bo hn hown
theorem claim_new (hbel : Below w.heap.size w W3) (hW : Below W3.heap.size W3 W') (hg : W'.grownBy w6 (some g0)) (hg0 : W3.heap.size ≤ g0) (bo : Bx3 W3 B vr vv vl) (hn : nr = n) (t : TypeId)
    (hown : w6.ownsRow W3.heap.size 31 1 (.slice (some ⟨g6, 0, none⟩) (1 + nr) c6) (1 + nr) ([.int .u64 root] ++ cellsOf nr R)) :
    StL w (w6.alloc (.cells #[.slice (some ⟨g6, 0, none⟩) (1 + nr) c6, vp, vv] t)) B w6.heap.size vr vv vl vp g6 c6 n (rtQ root R) := by
  subst hn
  have hB : B < W3.heap.size := World.block_lt_of_cell? W3 _ bo.c0
  have h6 : Below W3.heap.size W3 w6 := hW.grown hg hW.size (by intro k hk; have := Option.some.inj hk; omega)
  have hr := row_root hown
  rw [show (Value.slice (some ⟨g6, 0, none⟩) (1 + nr) c6) = .slice (some ⟨g6, 0, none⟩) (nr + 1) c6 from by rw [Nat.add_comm]]
  refine ⟨hbel.trans ((h6.alloc h6.size _).mono hbel.size), ?_, Bx3.new _ _ _ _ _, hr.kept (bel_new _ _) (hr.lt (by omega))⟩
  exact ((bo.kept hW).grown hg (by omega)).kept (bel_new _ _)
end

set_option maxHeartbeats 1000000 in
theorem look_arg (n m cp cpl nr cr N cl : Nat) (ap apl ar al : Option Addr) (root v : Int) (p : Nat → Int) (w : World) (hn : n ≤ maxLen) (hm : m ≤ maxLen) (hp : IRowP w apl m p) (h : ¬ argOk n m p) :
    Calls Tryz.prog 35 #[.int .u64 root, .slice ap n cp, .slice apl m cpl, .agg #[.slice ar nr cr, .int .u64 v, .slice al N cl]] w fun e w' => e = .returned (.tuple #[.bool false, .int .i64 1]) ∧ Below w.heap.size w w' := by
  have hm2 : n ≤ 9223372036854775807 := hn
  have HB := hid (bel_new w (.cells #[.slice ar nr cr, .int .u64 v, .slice al N cl] 42))
  by_cases h1 : n < 1
  · have d1 : decide ((n : Int) < 1) = true := decide_eq_true (by omega)
    clear h hp
    go_enter Tryz.func35, Tryz.ntmps35
    go_wp2_with fail
    go_ret2
    exact ⟨rfl, HB.out⟩
  · have d1 : decide ((n : Int) < 1) = false := decide_eq_false (by omega)
    by_cases h8 : 8 < n
    · have d8 : decide ((8 : Int) < (n : Int)) = true := decide_eq_true (by omega)
      clear h hp
      go_enter Tryz.func35, Tryz.ntmps35
      go_wp2_with fail
      go_ret2
      exact ⟨rfl, HB.out⟩
    · have d8 : decide ((8 : Int) < (n : Int)) = false := decide_eq_false (by omega)
      have HA := hid (arePlaces_any m cpl n apl p (w.alloc (.cells #[.slice ar nr cr, .int .u64 v, .slice al N cl] 42)) (by omega) (by omega) hm (hp.kept HB.out))
      have HNO : Hid (¬ plOk m n p) := hid (fun h2 => h ⟨by omega, by omega, h2⟩)
      clear h hp
      go_enter Tryz.func35, Tryz.ntmps35
      go_wp2_with fail
      refine (HA.out).mono ?_
      rintro e w1 ⟨r, rfl, hr, hw⟩
      obtain rfl := hw.symm
      have hr2 : r = false := by
        cases r
        · rfl
        · exact absurd (hr.1 rfl) HNO.out
      subst hr2
      clear hr
      go_wp2_with fail
      go_ret2
      exact ⟨rfl, HB.out⟩

/-- The same, with the world. -/
def lookPost (w : World) (n : Nat) (root : Int) (g : Nat → Int) (m : Nat) (p : Nat → Int) (nr : Nat) (R : Nat → Int) (v : Int) (o : OQ) (e : Ending) (w' : World) : Prop := ∃ (r : Bool) (x : Int), e = .returned (.tuple #[.bool r, .int .i64 x]) ∧ LookOut n root g m p nr R v o r x ∧ Below w.heap.size w w'
set_option maxHeartbeats 8000000 in
set_option maxRecDepth 100000 in
theorem look_any (n m cp cpl nr cr N cl : Nat) (ap apl ar al : Option Addr) (root v : Int) (g p R : Nat → Int) (o : OQ) (mm : OM) (w : World) (hn : n ≤ maxLen) (hm : m ≤ maxLen) (hN : o.n = N) (r0 : 0 ≤ root) (r1 : root ≤ 18446744073709551615) (v0 : 0 ≤ v) (v1 : v ≤ 18446744073709551615) (hg : PRow w ap n g) (hgv : Nums g) (hp : IRowP w apl m p) (hR : PRow w ar nr R) (hRv : Nums R) (ho : OpRow w al o mm) (hov : o.nums) :
    Calls Tryz.prog 35 #[.int .u64 root, .slice ap n cp, .slice apl m cpl, .agg #[.slice ar nr cr, .int .u64 v, .slice al N cl]] w (lookPost w n root g m p nr R v o) := by
  by_cases hA : argOk n m p
  · have HA := hid hA
    have HN := hid hN
    obtain ⟨n1, n8, hpl⟩ := hA
    have m32 : m ≤ 32 := hpl.1
    have HPL := hid hpl
    have hb0 := bel_new w (.cells #[.slice ar nr cr, .int .u64 v, .slice al N cl] 42)
    have HAP := hid (arePlaces_any m cpl n apl p (w.alloc (.cells #[.slice ar nr cr, .int .u64 v, .slice al N cl] 42)) n1 n8 hm (hp.kept hb0))
    have HHF := hid (fun W (hb : Below w.heap.size w W) => ohasForm_any ar al nr cr N cl n m v o mm W n1 n8 (by omega) hN (ho.kept hb))
    have HS0 : Hid (StO w (w.alloc (.cells #[.slice ar nr cr, .int .u64 v, .slice al N cl] 42)) w.heap.size (.slice ar nr cr) (.int .u64 v) (.slice al N cl) al o mm) := hid ⟨hb0, Bx3.new w _ _ _ _, ho.kept hb0⟩
    have HG := hid (And.intro hg hgv)
    have HP := hid hp
    have HR := hid (And.intro hR hRv)
    have HO := hid (And.intro ho hov)
    have d1 : decide ((n : Int) < 1) = false := decide_eq_false (by omega)
    have d8 : decide ((8 : Int) < (n : Int)) = false := decide_eq_false (by omega)
    clear hb0 hpl hp hg hgv hR hRv ho hov hN
    go_enter Tryz.func35, Tryz.ntmps35
    go_wp2_with fail
    obtain ⟨B, hB⟩ : ∃ B, w.heap.size = B := ⟨_, rfl⟩
    rw [hB] at HS0
    rw [hB]
    clear hB
    generalize w.alloc (.cells #[.slice ar nr cr, .int .u64 v, .slice al N cl] 42) = W1 at HS0 HAP ⊢
    refine (HAP.out).mono ?_
    rintro e w1 ⟨r, rfl, hr, hw⟩
    obtain rfl := hw.symm
    have hr2 : r = true := hr.2 HPL.out
    subst hr2
    clear hr d1 d8 HAP
    obtain ⟨z0, z1, z2⟩ := HS0.out.box
    go_wp2_with fail
    refine (HHF.out _ HS0.out.bel).mono ?_
    rintro e W2 ⟨r, rfl, hr, hb2⟩
    have HS2 := hid (HS0.out.next hb2)
    clear HHF HS0 hb2 z0 z1 z2
    obtain ⟨z0, z1, z2⟩ := HS2.out.box
    cases r with
    | false =>
      have HF : Hid (¬ ofmQ nr n m o) := hid (fun h => by have := hr.2 h; cases this)
      clear hr
      go_wp2_with fail
      go_ret2
      exact ⟨false, 4, rfl, .inr (.inl ⟨HA.out, HF.out, rfl, rfl⟩), HS2.out.bel⟩
    | true =>
      have hF := hr.1 rfl
      have HF := hid hF
      have HFO : Hid (o.form n) := hid hF.2.2
      obtain ⟨hn2, hNm, _⟩ := hF
      have HNM : Hid (N = m) := hid (HN.out.symm.trans hNm)
      have HNR : Hid (nr = n) := hid hn2
      have N32 : N ≤ 32 := by have h1 := HNM.out; omega
      obtain ⟨br, orr, rfl, hRr⟩ := HR.out.1 (by omega)
      have HRr := hid hRr
      have cR := (hRr.kept HS2.out.bel (hRr.lt (by omega))) (n - 1) (by omega)
      have HRV := HR.out.2 (n - 1)
      have HLT := hid (fun W (x : Int) (h0 : 0 ≤ x) (h1 : x ≤ 18446744073709551615) => leadsTo_any 0 0 0 none v x (fun _ => 0) W (by omega) (fun h => absurd h (by omega)) (fun _ => by dsimp only; omega) (by decide) v0 v1 h0 h1)
      have HL0 : Hid ((climbQ 0 0 v (fun _ => 0) == nrm (R (n - 1))) = false → lookB n root g m (fun j => (p j).toNat) R v o = false) := hid look_not
      have HL1 : Hid ((climbQ 0 0 v (fun _ => 0) == nrm (R (n - 1))) = true → lookB n root g m (fun j => (p j).toNat) R v o = allB m fun i => allB n fun k => fitB n (rtQ root R) g v (o.P i) (o.T i) ((p i).toNat) k) := hid look_is
      generalize R (n - 1) = y at cR HRV HL0 HL1
      have hlt := fun W => HLT.out W y HRV.1 HRV.2
      generalize (climbQ 0 0 v (fun _ => 0) == nrm y) = r1 at hlt HL0 HL1
      have HLT2 := hid hlt
      obtain ⟨q, hq⟩ : ∃ q, n - 1 = q := ⟨_, rfl⟩
      rw [hq] at cR
      have hq2 : (n : Int) - 1 = (q : Int) := by omega
      have q0 : (0 : Int) ≤ (q : Int) := by omega
      have q1 : (q : Int) < (nr : Int) := by omega
      have q2 : q < nr := by omega
      clear hr hn2 hNm hRr HRV HLT hlt hq
      have FC : Hid ((fun W => W.cell? ⟨B, 0, none⟩ = some (.slice (some ⟨br, orr, none⟩) nr cr) ∧ W.cell? ⟨B, 1, none⟩ = some (.int .u64 v)) W2) := hid ⟨z0, z1⟩
      obtain ⟨SS, hSS⟩ : ∃ SS : World → Prop, SS = (fun W => (fun W => W.cell? ⟨B, 0, none⟩ = some (.slice (some ⟨br, orr, none⟩) nr cr) ∧ W.cell? ⟨B, 1, none⟩ = some (.int .u64 v)) W ∧ W.cell? ⟨br, orr + q, none⟩ = some (.int .u64 y)) := ⟨_, rfl⟩
      have HSS : Hid (∀ W, ((fun W => W.cell? ⟨B, 0, none⟩ = some (.slice (some ⟨br, orr, none⟩) nr cr) ∧ W.cell? ⟨B, 1, none⟩ = some (.int .u64 v)) W ∧ W.cell? ⟨br, orr + q, none⟩ = some (.int .u64 y)) → SS W) := hid (fun W h => by rw [hSS]; exact h)
      have HSU : Hid (∀ W, SS W → ((fun W => W.cell? ⟨B, 0, none⟩ = some (.slice (some ⟨br, orr, none⟩) nr cr) ∧ W.cell? ⟨B, 1, none⟩ = some (.int .u64 v)) W ∧ W.cell? ⟨br, orr + q, none⟩ = some (.int .u64 y))) := hid (fun W h => by rw [hSS] at h; exact h)
      have HNX : Hid (∀ W W' : World, Below W.heap.size W W' → ((fun W => W.cell? ⟨B, 0, none⟩ = some (.slice (some ⟨br, orr, none⟩) nr cr) ∧ W.cell? ⟨B, 1, none⟩ = some (.int .u64 v)) W ∧ W.cell? ⟨br, orr + q, none⟩ = some (.int .u64 y)) → ((fun W => W.cell? ⟨B, 0, none⟩ = some (.slice (some ⟨br, orr, none⟩) nr cr) ∧ W.cell? ⟨B, 1, none⟩ = some (.int .u64 v)) W' ∧ W'.cell? ⟨br, orr + q, none⟩ = some (.int .u64 y))) := hid (fun W W' hb h => ⟨⟨keepC hb h.1.1, keepC hb h.1.2⟩, keepC hb h.2⟩)
      clear hSS
      have FC0 := FC
      clear FC
      have FC : Hid ((fun W => W.cell? ⟨B, 0, none⟩ = some (.slice (some ⟨br, orr, none⟩) nr cr) ∧ W.cell? ⟨B, 1, none⟩ = some (.int .u64 v)) W2 ∧ W2.cell? ⟨br, orr + q, none⟩ = some (.int .u64 y)) := hid ⟨FC0.out, cR⟩
      have hc0 : ∀ t : QT W2 SS, t.w.cell? ⟨B, 0, none⟩ = some (.slice (some ⟨br, orr, none⟩) nr cr) := fun t => (HSU.out _ t.s).1.1
      have hc1 : ∀ t : QT W2 SS, t.w.cell? ⟨B, 1, none⟩ = some (.int .u64 v) := fun t => (HSU.out _ t.s).1.2
      have hc2 : ∀ t : QT W2 SS, t.w.cell? ⟨br, orr + q, none⟩ = some (.int .u64 y) := fun t => (HSU.out _ t.s).2
      clear FC0 z0 z1 z2 cR
      go_wp2_with fail
      refine wp_region_grown SS (by kernel_rfl) (by kernel_rfl) (HSS.out _ FC.out) ?_
      haveI : Nonempty (QT W2 SS) := QT.ne (HSS.out _ FC.out)
      have HKS : Hid (∀ (t : QT W2 SS) w', Below t.w.heap.size t.w w' → SS w') := hid (fun t w' hb => HSS.out _ (HNX.out _ _ hb (HSU.out _ t.s)))
      have HBL : Hid (∀ t : QT W2 SS, Below w.heap.size w t.w) := hid (fun t => HS2.out.bel.trans (t.b.mono HS2.out.bel.size))
      repeat (first | go_big_quiet_skip | (go_big_quiet_want; go_big_quiet_op; first | go_big_quiet_on | go_big_quiet_call ((go_at_call 68; exact Calls.grown_of (HLT2.out _) (HKS.out _)))))
      refine wpQuiet_nil ?_
      intro _ hw'
      obtain ⟨tq, hw''⟩ := hw'
      subst hw''
      have HS3 := hid (HS2.out.next tq.b)
      clear hc0 hc1 hc2 HKS HBL FC HNX HSU HSS HS2 HLT2
      obtain ⟨W3, hwq⟩ : ∃ wq, tq.w = wq := ⟨_, rfl⟩
      rw [hwq] at HS3 ⊢
      clear hwq
      clear tq
      clear this
      clear SS
      cases r1 with
      | false =>
        go_wp2_with fail
        go_ret2
        exact ⟨false, 0, rfl, .inr (.inr ⟨HA.out, HF.out, (HL0.out (by first | rfl | trivial)).symm, rfl⟩), HS3.out.bel⟩
      | true =>
        have HR3 := hid (HRr.out.kept HS3.out.bel (HRr.out.lt (by omega)))
        obtain ⟨i0, hi, hz0, hz1, hz2⟩ := info_parts Tryz.infoO
        have HI := hid (And.intro hi (And.intro hz0 (And.intro hz1 hz2)))
        have hr3lt := HRr.out.lt (by omega)
        clear hi hz0 hz1 hz2
        obtain ⟨z0, z1, z2⟩ := HS3.out.box
        have hBl : B < W3.heap.size := World.block_lt_of_cell? W3 _ z0
        have nr0 : 0 < nr := by omega
        have nrm1 : nr ≤ 8 := by have := HNR.out; omega
        go_wp2_with fail
        go_cut [11] (fun a11 wx => ∃ X gR cR : Nat, a11 = .pointer (some ⟨X, 0, none⟩) ∧ Hid (StL w wx B X (.slice (some ⟨br, orr, none⟩) nr cr) (.int .u64 v) (.slice al N cl) (.slice ap n cp) gR cR n (rtQ root R)))
        case first =>
          go_region_held3 (fun W => W.cell? ⟨B, 0, none⟩ = some (.slice (some ⟨br, orr, none⟩) nr cr) ∧ W.cell? ⟨B, 1, none⟩ = some (.int .u64 v)) (first | assumption | (refine ⟨?_, ?_⟩ <;> (try with_reducible refine cellD ?_) <;> first | with_reducible exact z0 | with_reducible exact z1 | with_reducible exact hHc.out.1 | with_reducible exact hHc.out.2 | (with_reducible refine keepC (bel_new _ _) ?_; first | with_reducible exact z0 | with_reducible exact z1 | with_reducible exact hHc.out.1 | with_reducible exact hHc.out.2 | (with_reducible refine keepC (bel_new _ _) ?_; first | with_reducible exact z0 | with_reducible exact z1 | with_reducible exact hHc.out.1 | with_reducible exact hHc.out.2)) | (with_reducible refine cell_set3 ?_ (by omega); first | with_reducible exact z0 | with_reducible exact z1 | with_reducible exact hHc.out.1 | with_reducible exact hHc.out.2))) (first
            | (refine step_append_lies _ (by rfl) (.tmp 45) (.tmp 47) 22 (by rfl) W3.heap.size 31 i0 (.int .u64 0) 1 8 Tryz.underlying22 HI.out.1 HI.out.2.1 HI.out.2.2.1 HI.out.2.2.2 rfl (by decide) (.slice (some ⟨W3.heap.size, 0, none⟩) 1 1) 1 [.int .u64 root] (by rfl) (by first | exact World.ownsRow_lit _ #[.int .u64 root] 1 (by simp) (by unfold maxLen; omega) rfl | exact World.ownsRow.alloc (World.ownsRow_lit _ #[.int .u64 root] 1 (by simp) (by unfold maxLen; omega) rfl) _) ⟨br, orr, none⟩ nr cr (cellsOf nr R) (by rfl) (by rw [cellsOf_len]; omega) (row_cells (by repeat (first | exact HR3.out | exact Row.drew HR3.out | refine rowA nr0 ?_))) (cellsOf_one _ _) nr0 (by unfold maxLen; omega) (by omega) (by simp <;> omega) _ rfl ?_; intro g6 c6 w6 hown6 hgrow6 hat6 hlt6; have hHc : Hid ((fun W => W.cell? ⟨B, 0, none⟩ = some (.slice (some ⟨br, orr, none⟩) nr cr) ∧ W.cell? ⟨B, 1, none⟩ = some (.int .u64 v)) w6) := hid (have hh : _ ∧ _ := (by assumption); ⟨hgrow6.cell hh.1 (by intro e; have := Option.some.inj e; simp at this; omega), hgrow6.cell hh.2 (by intro e; have := Option.some.inj e; simp at this; omega)⟩); have hC : World.grownBy (World.drew (World.alloc W3 (.cells #[.int .u64 root] 31))) w6 _ := hgrow6; try (have x0 := zx.c.c0; have x1 := zx.c.c1; have x2 := zx.c.c2; have y0 := zx.f 0 (by omega); have y1 := zx.f 1 (by omega); have y2 := zx.f 2 (by omega)))
            | (refine step_append_lies _ (by rfl) (.tmp 45) (.tmp 47) 22 (by rfl) W3.heap.size 31 i0 (.int .u64 0) 1 8 Tryz.underlying22 HI.out.1 HI.out.2.1 HI.out.2.2.1 HI.out.2.2.2 rfl (by decide) (.slice (some ⟨W3.heap.size + 1, 0, none⟩) 1 1) 1 [.int .u64 root] (by rfl) (by first | exact own_lit2 W3 _ root | exact World.ownsRow_lit _ #[.int .u64 root] 1 (by simp) (by unfold maxLen; omega) rfl | exact World.ownsRow.alloc (World.ownsRow_lit _ #[.int .u64 root] 1 (by simp) (by unfold maxLen; omega) rfl) _) ⟨br, orr, none⟩ nr cr (cellsOf nr R) (by rfl) (by rw [cellsOf_len]; omega) (row_cells (by repeat (first | exact HR3.out | exact Row.drew HR3.out | refine rowA nr0 ?_))) (cellsOf_one _ _) nr0 (by unfold maxLen; omega) (by omega) (by simp <;> omega) _ rfl ?_; intro g6 c6 w6 hown6 hgrow6 hat6 hlt6; have hHc : Hid ((fun W => W.cell? ⟨B, 0, none⟩ = some (.slice (some ⟨br, orr, none⟩) nr cr) ∧ W.cell? ⟨B, 1, none⟩ = some (.int .u64 v)) w6) := hid (have hh : _ ∧ _ := (by assumption); ⟨hgrow6.cell hh.1 (by intro e; have := Option.some.inj e; simp at this; omega), hgrow6.cell hh.2 (by intro e; have := Option.some.inj e; simp at this; omega)⟩); (have zx : Zero3 w6 W3.heap.size (.slice none 0 0) (.slice none 0 0) (.int .u64 0) := Zero3.grown (((Zero3.new W3 (.slice none 0 0) (.slice none 0 0) (.int .u64 0) _).kept (bel_new _ _)).dr) hgrow6 (by first | (show W3.heap.size ≠ W3.heap.size + 1; omega) | (show W3.heap.size ≠ (W3.alloc _).heap.size; simp))); (have x0 := zx.c.c0; have x1 := zx.c.c1; have x2 := zx.c.c2; have y0 := zx.f 0 (by omega); have y1 := zx.f 1 (by omega); have y2 := zx.f 2 (by omega)))
            | (refine step_append_lies _ (by rfl) (.tmp 45) (.tmp 47) 22 (by rfl) W3.heap.size 31 i0 (.int .u64 0) 1 8 Tryz.underlying22 HI.out.1 HI.out.2.1 HI.out.2.2.1 HI.out.2.2.2 rfl (by decide) (.slice (some ⟨W3.heap.size, 0, none⟩) 1 1) 1 [.int .u64 root] (by rfl) (by first | exact World.ownsRow_lit _ #[.int .u64 root] 1 (by simp) (by unfold maxLen; omega) rfl | exact World.ownsRow.alloc (World.ownsRow_lit _ #[.int .u64 root] 1 (by simp) (by unfold maxLen; omega) rfl) _) ⟨br, orr, none⟩ nr cr (cellsOf nr R) (by rfl) (by rw [cellsOf_len]; omega) (row_cells (by repeat (first | exact HR3.out | exact Row.drew HR3.out | refine rowA nr0 ?_))) (cellsOf_one _ _) nr0 (by unfold maxLen; omega) (by omega) (by simp <;> omega) _ rfl ?_; intro g6 c6 w6 hown6 hgrow6 hat6 hlt6; have hHc : Hid ((fun W => W.cell? ⟨B, 0, none⟩ = some (.slice (some ⟨br, orr, none⟩) nr cr) ∧ W.cell? ⟨B, 1, none⟩ = some (.int .u64 v)) w6) := hid (have hh : _ ∧ _ := (by assumption); ⟨hgrow6.cell hh.1 (by intro e; have := Option.some.inj e; simp at this; omega), hgrow6.cell hh.2 (by intro e; have := Option.some.inj e; simp at this; omega)⟩); (have zx : Zero3 w6 (W3.heap.size + 1) (.slice none 0 0) (.slice none 0 0) (.int .u64 0) := Zero3.grown ((Zero3.second W3 (.slice none 0 0) (.slice none 0 0) (.int .u64 0) _ _).dr) hgrow6 (by show W3.heap.size + 1 ≠ W3.heap.size; omega)); (have x0 := zx.c.c0; have x1 := zx.c.c1; have x2 := zx.c.c2; have y0 := zx.f 0 (by omega); have y1 := zx.f 1 (by omega); have y2 := zx.f 2 (by omega))))
          all_goals (go_wp2_with fail)
          all_goals go_meet
          all_goals first
            | exact ⟨_, _, _, rfl, hid (claim_new HS3.out.bel (bel_new _ _).drew hgrow6 (Nat.le_refl _) HS3.out.box HNR.out _ hown6)⟩
            | exact ⟨_, _, _, rfl, hid (claim_two HS3.out.bel hgrow6 hat6 (.inl ⟨rfl, rfl⟩) zx HS3.out.box HNR.out hown6)⟩
            | exact ⟨_, _, _, rfl, hid (claim_two HS3.out.bel hgrow6 hat6 (.inr ⟨rfl, rfl⟩) zx HS3.out.box HNR.out hown6)⟩
        case rest =>
          obtain ⟨X, gR, cR, rfl, HS4⟩ := hcut
          clear z0 z1 z2 HR3 HI hr3lt hBl nr0
          have HAL := hid (HL1.out (by first | rfl | trivial))
          clear HL0 HL1 HS3 HRr
          go_wp2_with fail
          go_loopg [55] m (fun q x ws => ∃ t : Nat, t ≤ m ∧ q = m - t ∧ x = .int .i64 (t : Int) ∧ Hid (∀ j, j < t → (allB n fun k => fitB n (rtQ root R) g v (o.P j) (o.T j) ((p j).toNat) k) = true) ∧ Hid (StL w ws B X (.slice (some ⟨br, orr, none⟩) nr cr) (.int .u64 v) (.slice al N cl) (.slice ap n cp) gR cR n (rtQ root R)))
          case atStart => exact ⟨0, by omega, rfl, rfl, hid (fun j hj => absurd hj (by omega)), HS4⟩
          case round =>
            clear HS4
            obtain ⟨t, ht, rfl, rfl, HK, HS⟩ := hrel
            by_cases htl : t < m
            · obtain ⟨bpl, opl, rfl, hplr⟩ := (HP.out.kept HS.out.bel) (by omega)
              have c1 := hplr t htl
              have hpt := HPL.out.2 t htl
              obtain ⟨bl, ol, rfl, hrow⟩ := (HO.out.1.kept HS.out.bel) (by rw [HN.out, HNM.out]; omega)
              obtain ⟨d0, d1, hqr, htr⟩ := hrow t (by rw [HN.out, HNM.out]; exact htl)
              obtain ⟨f0, f1, f2⟩ := HFO.out t (by rw [HN.out, HNM.out]; exact htl)
              rw [f0] at d0 hqr
              rw [f1] at d1 htr
              rw [Nat.mul_comm 2 t] at d0 d1
              obtain ⟨pt, hptn⟩ : ∃ pt : Nat, p t = (pt : Int) := ⟨(p t).toNat, by omega⟩
              have HPT : Hid ((p t).toNat = pt) := hid (by omega)
              rw [hptn] at c1 hpt
              have hh := hfQ_le (k := 0) n8
              have pt8 : pt ≤ 1000 := by omega
              have HFI := hid (fun W (hb : Below wr.heap.size wr W) => fits_any n pt cR cp (mm.pc t) (mm.tc t) (some ⟨gR, 0, none⟩) ap (mm.pa t) (mm.ta t) v (rtQ root R) g (o.P t) (mm.A t) (o.tl t) (mm.C t) (o.T t) W n8 pt8 (PRow.of (HS.out.row.kept hb (HS.out.row.lt (by omega)))) (fun j => by unfold rtQ; split; exact ⟨r0, r1⟩; exact HR.out.2 _) ((HG.out.1.kept HS.out.bel).kept hb) HG.out.2 v0 v1 (hqr.kept hb) (fun k e => ⟨(HO.out.2 t k e).1, (HO.out.2 t k e).2.1⟩) (htr.kept hb) f2 (fun k e => (HO.out.2 t k e).2.2))
              have HBV : Hid (∀ b, (allB n fun k => fitB n (rtQ root R) g v (o.P t) (o.T t) pt k) = b → (allB n fun k => fitB n (rtQ root R) g v (o.P t) (o.T t) ((p t).toNat) k) = b) := hid (fun b h => by rw [HPT.out]; exact h)
              generalize (allB n fun k => fitB n (rtQ root R) g v (o.P t) (o.T t) pt k) = rr at HFI HBV
              generalize mm.pa t = pa at d0 HFI
              generalize mm.ta t = ta at d1 HFI
              generalize mm.pc t = pc at d0 HFI
              generalize mm.tc t = tc at d1 HFI
              obtain ⟨z0, z1, z2⟩ := HS.out.bo
              obtain ⟨x0, x1, x2⟩ := HS.out.bc
              have t0 : (0 : Int) ≤ (t : Int) := by omega
              have t1 : (t : Int) < (m : Int) := by omega
              have t2 : (t : Int) < (N : Int) := by have h1 := HNM.out; omega
              have t3 : t < N := by have h1 := HNM.out; omega
              clear hplr hrow hqr htr f0 f1 f2 hptn hpt hh
              obtain ⟨SS, hSS⟩ : ∃ SS : World → Prop, SS = (fun W => W.cell? ⟨B, 2, none⟩ = some (.slice (some ⟨bl, ol, none⟩) N cl) ∧ W.cell? ⟨X, 0, none⟩ = some (.slice (some ⟨gR, 0, none⟩) (n + 1) cR) ∧ W.cell? ⟨X, 1, none⟩ = some (.slice ap n cp) ∧ W.cell? ⟨X, 2, none⟩ = some (.int .u64 v) ∧ W.cell? ⟨bl, ol + t * 2, none⟩ = some (.slice pa n pc) ∧ W.cell? ⟨bl, ol + t * 2 + 1, none⟩ = some (.slice ta n tc)) := ⟨_, rfl⟩
              have HSS : Hid (∀ W, (fun W => W.cell? ⟨B, 2, none⟩ = some (.slice (some ⟨bl, ol, none⟩) N cl) ∧ W.cell? ⟨X, 0, none⟩ = some (.slice (some ⟨gR, 0, none⟩) (n + 1) cR) ∧ W.cell? ⟨X, 1, none⟩ = some (.slice ap n cp) ∧ W.cell? ⟨X, 2, none⟩ = some (.int .u64 v) ∧ W.cell? ⟨bl, ol + t * 2, none⟩ = some (.slice pa n pc) ∧ W.cell? ⟨bl, ol + t * 2 + 1, none⟩ = some (.slice ta n tc)) W → SS W) := hid (fun W h => by rw [hSS]; exact h)
              have HSU : Hid (∀ W, SS W → (fun W => W.cell? ⟨B, 2, none⟩ = some (.slice (some ⟨bl, ol, none⟩) N cl) ∧ W.cell? ⟨X, 0, none⟩ = some (.slice (some ⟨gR, 0, none⟩) (n + 1) cR) ∧ W.cell? ⟨X, 1, none⟩ = some (.slice ap n cp) ∧ W.cell? ⟨X, 2, none⟩ = some (.int .u64 v) ∧ W.cell? ⟨bl, ol + t * 2, none⟩ = some (.slice pa n pc) ∧ W.cell? ⟨bl, ol + t * 2 + 1, none⟩ = some (.slice ta n tc)) W) := hid (fun W h => by rw [hSS] at h; exact h)
              clear hSS
              have FC : Hid ((fun W => W.cell? ⟨B, 2, none⟩ = some (.slice (some ⟨bl, ol, none⟩) N cl) ∧ W.cell? ⟨X, 0, none⟩ = some (.slice (some ⟨gR, 0, none⟩) (n + 1) cR) ∧ W.cell? ⟨X, 1, none⟩ = some (.slice ap n cp) ∧ W.cell? ⟨X, 2, none⟩ = some (.int .u64 v) ∧ W.cell? ⟨bl, ol + t * 2, none⟩ = some (.slice pa n pc) ∧ W.cell? ⟨bl, ol + t * 2 + 1, none⟩ = some (.slice ta n tc)) wr) := hid ⟨z2, x0, x1, x2, d0, d1⟩
              have hc0 : ∀ t : QT wr SS, t.w.cell? ⟨B, 2, none⟩ = some (.slice (some ⟨bl, ol, none⟩) N cl) := fun t => (HSU.out _ t.s).1
              have hc1 : ∀ t : QT wr SS, t.w.cell? ⟨X, 0, none⟩ = some (.slice (some ⟨gR, 0, none⟩) (n + 1) cR) := fun t => (HSU.out _ t.s).2.1
              have hc2 : ∀ t : QT wr SS, t.w.cell? ⟨X, 1, none⟩ = some (.slice ap n cp) := fun t => (HSU.out _ t.s).2.2.1
              have hc3 : ∀ t : QT wr SS, t.w.cell? ⟨X, 2, none⟩ = some (.int .u64 v) := fun t => (HSU.out _ t.s).2.2.2.1
              have hc4 : ∀ q : QT wr SS, q.w.cell? ⟨bl, ol + t * 2, none⟩ = some (.slice pa n pc) := fun t => (HSU.out _ t.s).2.2.2.2.1
              have hc5 : ∀ q : QT wr SS, q.w.cell? ⟨bl, ol + t * 2 + 1, none⟩ = some (.slice ta n tc) := fun t => (HSU.out _ t.s).2.2.2.2.2
              clear z0 z1 z2 x0 x1 x2 d0 d1
              go_wp2_with fail
              refine wp_region_grown SS (by kernel_rfl) (by kernel_rfl) (HSS.out _ FC.out) ?_
              haveI : Nonempty (QT wr SS) := QT.ne (HSS.out _ FC.out)
              have HKS : Hid (∀ (t : QT wr SS) w', Below t.w.heap.size t.w w' → SS w') := hid (fun t w' hb => HSS.out _ (by obtain ⟨e1, e2, e3, e4, e5, e6⟩ := HSU.out _ t.s; exact ⟨keepC hb e1, keepC hb e2, keepC hb e3, keepC hb e4, keepC hb e5, keepC hb e6⟩))
              repeat (first | go_big_quiet_skip | (go_big_quiet_want; go_big_quiet_op; first | go_big_quiet_on | go_big_quiet_call ((go_at_call 69; exact Calls.grown_of (HFI.out _ (QT.b _)) (HKS.out _)))))
              refine wpQuiet_nil ?_
              intro _ hw'
              obtain ⟨tq, hw''⟩ := hw'
              subst hw''
              have HS3 := hid (HS.out.next tq.b)
              clear hc0 hc1 hc2 hc3 hc4 hc5 HKS FC HSU HSS HFI HS
              obtain ⟨W3, hwq⟩ : ∃ wq, tq.w = wq := ⟨_, rfl⟩
              rw [hwq] at HS3 ⊢
              clear hwq
              clear tq
              clear this
              clear SS
              cases rr with
              | false =>
                have HNO : Hid (lookB n root g m (fun j => (p j).toNat) R v o = false) := hid (by rw [HAL.out]; exact allB_no htl (HBV.out _ rfl))
                clear HBV
                go_wp2_with fail
                go_ret2
                exact ⟨false, 0, rfl, .inr (.inr ⟨HA.out, HF.out, HNO.out.symm, rfl⟩), HS3.out.bel⟩
              | true =>
                have HK2 : Hid (∀ j, j < t + 1 → (allB n fun k => fitB n (rtQ root R) g v (o.P j) (o.T j) ((p j).toNat) k) = true) := hid (fun j hj => by
                  by_cases e : j = t
                  · rw [e]; exact HBV.out _ rfl
                  · exact HK.out j (by omega))
                clear HK HBV
                go_wp2_with fail
                go_roundg (m - (t + 1))
                case measure => go_light; omega
                case rel => exact ⟨t + 1, by omega, rfl, by go_num, HK2, HS3⟩
            · have e : t = m := by omega
              subst e
              go_wp2_with fail
              go_ret2
              exact ⟨true, 0, rfl, .inr (.inr ⟨HA.out, HF.out, (HAL.out.trans (allB_iff.2 HK.out)).symm, rfl⟩), HS.out.bel⟩
  · refine (look_arg n m cp cpl nr cr N cl ap apl ar al root v p w hn hm hp hA).mono ?_
    rintro e w' ⟨rfl, hb⟩
    exact ⟨false, 1, rfl, .inl ⟨hA, rfl, rfl⟩, hb⟩

end Go.Proofs.YtbchbmelofojkaaGreatDoor

/-
  Package tree's rows, Paths and Root, each for every input; they write nothing that was there.
-/
namespace Go.Proofs.YtbchbmelofojkaaGreatDoor
open Go.RowKit
set_option linter.unusedVariables false
attribute [local go_sem ↓] Go.wp_at_zero Go.wp_at_succ

/-- The place beside is told by the lowest bit. -/
theorem xor_all : ((List.range 256).all fun m => bits .xor .i64 (m : Int) 1 == ((sib m : Nat) : Int)) = true := by kernel_rfl
theorem xor_sib (m : Nat) (h : m < 256) : bits .xor .i64 (m : Int) 1 = ((sib m : Nat) : Int) := by
  have := List.all_eq_true.1 xor_all m (List.mem_range.2 h)
  simpa using this
theorem sib_lt {m z : Nat} (h : m < 2 * z) : sib m < 2 * z := by unfold sib; split <;> omega
theorem Made.held {w w' w'' : World} {n : Nat} {f : Nat → Int} (h : Made w w' n f) (hn : 0 < n) (hb : Below w'.heap.size w' w'') : Made w w'' n f :=
  ⟨h.below.trans (hb.mono h.below.size), h.row.kept hb (h.row.lt hn), h.free.kept hb (h.row.lt hn)⟩
theorem path_next (n : Nat) (f : Nat → Int) (i k j : Nat) (y : Int) (hy : pathQ n f i k = y) : (if j = k then y else if j < k then pathQ n f i j else 0) = if j < k + 1 then pathQ n f i j else 0 := by
  by_cases e : j = k
  · subst e
    rw [if_pos rfl, if_pos (by omega), hy]
  · rw [if_neg e]
    by_cases h2 : j < k
    · rw [if_pos h2, if_pos (by omega)]
    · rw [if_neg h2, if_neg (by omega)]

theorem lev_step (F : Nat → Int) (k j : Nat) (y : Int) (hy : y = F k) : (if j = k then y else if j < k then F j else 0) = if j < k + 1 then F j else 0 := by
  by_cases e : j = k
  · subst e
    rw [if_pos rfl, if_pos (by omega), hy]
  · rw [if_neg e]
    by_cases h2 : j < k
    · rw [if_pos h2, if_pos (by omega)]
    · rw [if_neg h2, if_neg (by omega)]

set_option maxHeartbeats 4000000 in
set_option maxRecDepth 100000 in
/-- One row of the tree, out of the row below. -/
theorem paired_ok (b off h cap : Nat) (f : Nat → Int) (w : World) (h1 : 1 ≤ h) (hh : h ≤ 256) (hr : Row w b off (2 * h) f) (hv : Nums f) :
    Calls Tryz.prog 100 #[.slice (some ⟨b, off, none⟩) (2 * h) cap] w fun e w' => e = .returned (.slice (some ⟨w.heap.size, 0, none⟩) h h) ∧ Made w w' h (fun j => prQ (f (2 * j)) (f (2 * j + 1))) := by
  have HR := hid hr
  have HV := hid hv
  clear hr hv
  have hmk := run_make_row' (P := Tryz.prog) 22 31 (.int .u64 0) 8 Tryz.underlying22 Tryz.infoM rfl .i64 .i64 h (by omega) (by omega)
  go_enter Tryz.func100, Tryz.ntmps100
  go_wp2_with fail
  clear hmk
  go_loopg [11] h (fun q x wr => ∃ k : Nat, k ≤ h ∧ q = h - k ∧ x = .int .i64 (k : Int) ∧ Hid (Made w wr h (fun j => if j < k then prQ (f (2 * j)) (f (2 * j + 1)) else 0)))
  case atStart => exact ⟨0, by omega, rfl, rfl, hid ((Made.start w h 31).congr fun j _ => by rw [if_neg (by omega)])⟩
  case round =>
    obtain ⟨k, hk, rfl, rfl, HM⟩ := hrel
    by_cases hlt : k < h
    · have c1 := HM.out.old HR.out (2 * k) (by omega)
      have c2 := HM.out.old HR.out (2 * k + 1) (by omega)
      have c3 := HM.out.cell k hlt
      have f3 := HM.out.frozen k hlt
      rw [if_neg (by omega)] at c3
      have hBlt : w.heap.size < wr.heap.size := HM.out.row.lt (by omega)
      obtain ⟨x, hx⟩ : ∃ x, f (2 * k) = x := ⟨_, rfl⟩
      obtain ⟨y, hy⟩ : ∃ y, f (2 * k + 1) = y := ⟨_, rfl⟩
      have bx := HV.out (2 * k)
      have by1 := HV.out (2 * k + 1)
      rw [hx] at c1 bx
      rw [hy] at c2 by1
      obtain ⟨x0, x1⟩ := bx
      obtain ⟨y0, y1⟩ := by1
      have HXY : Hid (prQ x y = prQ (f (2 * k)) (f (2 * k + 1))) := hid (by rw [hx, hy])
      clear hx hy
      have HP := hid (fun W => tpair x y W x0 x1 y0 y1)
      have k0 : (0 : Int) ≤ (k : Int) := by omega
      have k1 : (k : Int) < (h : Int) := by omega
      have k2 : (0 : Int) ≤ 2 * (k : Int) := by omega
      have k3 : 2 * (k : Int) < ((2 * h : Nat) : Int) := by omega
      have k4 : (0 : Int) ≤ 2 * (k : Int) + 1 := by omega
      have k5 : 2 * (k : Int) + 1 < ((2 * h : Nat) : Int) := by omega
      have k6 : 2 * (k : Int) < 2 * (h : Int) := by omega
      have k7 : 2 * (k : Int) + 1 < 2 * (h : Int) := by omega
      have k8 : (2 * (k : Int)).toNat = 2 * k := by omega
      have k9 : (2 * (k : Int) + 1).toNat = 2 * k + 1 := by omega
      have wr1 : IntKind.i64.wrap (2 * (k : Int)) = 2 * (k : Int) := IntWalk.i64_in _ (by omega)
      have wr2 : IntKind.i64.wrap (2 * (k : Int) + 1) = 2 * (k : Int) + 1 := IntWalk.i64_in _ (by omega)
      have hne : b ≠ w.heap.size := by have := HR.out.lt (by omega); omega
      have HZS : Hid (∀ W : World, W.cell? ⟨b, off + 2 * k, none⟩ = some (.int .u64 x) ∧ W.cell? ⟨b, off + (2 * k + 1), none⟩ = some (.int .u64 y) → ∀ v, (W.setCell ⟨w.heap.size, k, none⟩ v).cell? ⟨b, off + 2 * k, none⟩ = some (.int .u64 x) ∧ (W.setCell ⟨w.heap.size, k, none⟩ v).cell? ⟨b, off + (2 * k + 1), none⟩ = some (.int .u64 y)) := hid (fun W h v => ⟨by rw [World.cell?_setCell_other _ _ _ _ (by intro e; simp only [Addr.mk.injEq] at e; omega)]; exact h.1, by rw [World.cell?_setCell_other _ _ _ _ (by intro e; simp only [Addr.mk.injEq] at e; omega)]; exact h.2⟩)
      have HK : Hid (∀ W W' : World, Below W.heap.size W W' → (W.cell? ⟨b, off + 2 * k, none⟩ = some (.int .u64 x) ∧ W.cell? ⟨b, off + (2 * k + 1), none⟩ = some (.int .u64 y)) → W'.cell? ⟨b, off + 2 * k, none⟩ = some (.int .u64 x) ∧ W'.cell? ⟨b, off + (2 * k + 1), none⟩ = some (.int .u64 y)) := hid (fun W W' hb h => ⟨(hb.cell (World.block_lt_of_cell? W _ h.1)).trans h.1, (hb.cell (World.block_lt_of_cell? W _ h.2)).trans h.2⟩)
      clear hne
      go_wp2_with fail
      go_region_held3 (fun W => W.cell? ⟨b, off + 2 * k, none⟩ = some (.int .u64 x) ∧ W.cell? ⟨b, off + (2 * k + 1), none⟩ = some (.int .u64 y)) (first | assumption | exact ⟨c1, c2⟩ | exact HZ1.out | exact HZS.out _ HZ1.out _) (first | (go_at_call 120; refine (HP.out _).mono ?_; rintro e w1 ⟨rfl, hb⟩; have hb2 : Below wr.heap.size wr w1 := (by first | exact hb | exact (Below.refl _ wr).drew.trans hb); clear hb; have c4 := (hb2.cell (p := ⟨w.heap.size, k, none⟩) hBlt).trans c3; have f4 := (hb2.frozen (p := ⟨w.heap.size, k, none⟩) hBlt).trans f3; have HZ1 := hid (HK.out wr w1 hb2 ⟨c1, c2⟩); have HB := hid hb2; clear hb2))
      all_goals (go_wp2_with fail)
      all_goals (go_roundg (h - (k + 1)))
      all_goals first | (go_light; omega) | skip
      all_goals
        have hst := ((HM.out.held (by omega) HB.out).store k (prQ x y) hlt).congr fun j _ => lev_step (fun j => prQ (f (2 * j)) (f (2 * j + 1))) k j _ HXY.out
        exact ⟨k + 1, by omega, rfl, by go_num, (by first | exact hid hst | exact hid hst.drew)⟩
    · have e : k = h := by omega
      subst e
      go_wp2_with fail
      go_ret
      exact ⟨rfl, HM.out.congr fun j hj => by rw [if_pos hj]⟩

theorem half_of2 {n k M : Nat} (hk : k < n) (h : M = 2 ^ (n - k)) : ∃ H, M = 2 * H ∧ 1 ≤ H := ⟨2 ^ (n - 1 - k), by rw [h, show n - k = (n - 1 - k) + 1 from by omega, Nat.pow_succ]; omega, Nat.one_le_two_pow⟩
/-- The tree over a table, row by row. -/
structure Rws (w : World) (ao : Option Addr) (n : Nat) (A : Nat → Option Addr) (C : Nat → Nat) (f : Nat → Int) : Prop where
  row : LRow w ao (n + 1) A (fun k => 2 ^ (n - k)) C (levQ f)
theorem Rws.kept {w w' : World} {ao : Option Addr} {n : Nat} {A : Nat → Option Addr} {C : Nat → Nat} {f : Nat → Int} (h : Rws w ao n A C f) (hb : Below w.heap.size w w') : Rws w' ao n A C f := ⟨h.row.kept hb⟩
theorem Rws.at {w : World} {ao : Option Addr} {n : Nat} {A : Nat → Option Addr} {C : Nat → Nat} {f : Nat → Int} (h : Rws w ao n A C f) : ∃ b off, ao = some ⟨b, off, none⟩ ∧ ∀ k, k ≤ n → ∃ b2 o2, w.cell? ⟨b, off + k, none⟩ = some (.slice (some ⟨b2, o2, none⟩) (2 ^ (n - k)) (C k)) ∧ Row w b2 o2 (2 ^ (n - k)) (levQ f k) := by
  obtain ⟨b, off, e, hr⟩ := h.row (by omega)
  refine ⟨b, off, e, fun k hk => ?_⟩
  obtain ⟨h1, h2⟩ := hr k (by omega)
  obtain ⟨b2, o2, e2, h3⟩ := h2 (Nat.two_pow_pos _)
  rw [e2] at h1
  exact ⟨b2, o2, h1, h3⟩
set_option maxHeartbeats 8000000 in
set_option maxRecDepth 100000 in
theorem rows_ok (n N b off cap : Nat) (f : Nat → Int) (w : World) (hn : n ≤ 8) (hN : N = 2 ^ n) (hr : Row w b off N f) (hv : Nums f) :
    Calls Tryz.prog 66 #[.slice (some ⟨b, off, none⟩) N cap] w fun e w' => ∃ ao c A C, e = .returned (.slice ao (n + 1) c) ∧ n + 1 ≤ c ∧ Rws w' ao n A C f ∧ Below w.heap.size w w' := by
  have hN1 : 1 ≤ N := by rw [hN]; exact Nat.one_le_two_pow
  have hN2 : N ≤ 256 := by rw [hN]; exact pow_256 hn
  obtain ⟨i1, hi1, hy0, hy1, hy2⟩ := info_parts Tryz.infoL
  have HJ := hid (And.intro hi1 (And.intro hy0 (And.intro hy1 hy2)))
  have HR := hid hr
  have HV := hid hv
  have HN := hid hN
  clear hr hv hN hi1 hy0 hy1 hy2
  have hmk := run_make_row' (P := Tryz.prog) 22 31 (.int .u64 0) 8 Tryz.underlying22 Tryz.infoM rfl .i64 .i64 N (by omega) (by omega)
  go_enter Tryz.func66, Tryz.ntmps66
  go_wp2_with fail
  clear hmk
  go_loopg [12] N (fun q x wr => ∃ k : Nat, k ≤ N ∧ q = N - k ∧ x = .int .i64 (k : Int) ∧ Hid (Made w wr N (fun j => if j < k then levQ f 0 j else 0)))
  case atStart => exact ⟨0, by omega, rfl, rfl, hid ((Made.start w N 31).congr fun j _ => by rw [if_neg (by omega)])⟩
  case round =>
    obtain ⟨k, hk, rfl, rfl, HM⟩ := hrel
    by_cases hlt : k < N
    · have c1 := HM.out.old HR.out k hlt
      have c3 := HM.out.cell k hlt
      have f3 := HM.out.frozen k hlt
      rw [if_neg (by omega)] at c3
      have hBlt : w.heap.size < wr.heap.size := HM.out.row.lt (by omega)
      obtain ⟨x, hx⟩ : ∃ x, f k = x := ⟨_, rfl⟩
      have bx := HV.out k
      rw [hx] at c1 bx
      obtain ⟨x0, x1⟩ := bx
      have HXY : Hid (prQ x 0 = levQ f 0 k) := hid (by rw [← hx]; rfl)
      clear hx
      have HP := hid (leafRoot_any x wr x0 x1)
      have k0 : (0 : Int) ≤ (k : Int) := by omega
      have k1 : (k : Int) < (N : Int) := by omega
      go_wp2_with (go_at_call 99; refine (HP.out).mono ?_; rintro e w1 ⟨rfl, hb⟩; have c4 := (hb.cell (p := ⟨w.heap.size, k, none⟩) hBlt).trans c3; have f4 := (hb.frozen (p := ⟨w.heap.size, k, none⟩) hBlt).trans f3; have HB := hid hb; clear hb)
      go_roundg (N - (k + 1))
      case measure => go_light; omega
      case rel => exact ⟨k + 1, by omega, rfl, by go_num, hid (((HM.out.held (by omega) HB.out).store k _ hlt).congr fun j _ => lev_step _ k j _ HXY.out)⟩
    · have e : k = N := by omega
      subst e
      have hBlt : w.heap.size < wr.heap.size := HM.out.row.lt (by omega)
      have HO : Hid (OwnV (wr.alloc (.cells #[.slice (some ⟨w.heap.size, 0, none⟩) k k] 22)) w.heap.size (.slice (some ⟨wr.heap.size, 0, none⟩) 1 1) 1 (fun _ => some ⟨w.heap.size, 0, none⟩) (fun t => 2 ^ (n - t)) (fun _ => k) (levQ f)) := hid ((OwnV.one wr w.heap.size (some ⟨w.heap.size, 0, none⟩) k k (levQ f 0) (by omega) (fun x hx => by injection hx with hx; subst hx; exact hBlt) (PRow.of (HM.out.row.congr fun j hj => by rw [if_pos hj]))).congr (fun _ _ => rfl) (fun i hi => by rw [show i = 0 from by omega, HN.out, Nat.sub_zero]) (fun _ _ => rfl) (fun i j hi _ => by rw [show i = 0 from by omega]))
      have HB := hid (HM.out.below.alloc (by omega) (.cells #[.slice (some ⟨w.heap.size, 0, none⟩) k k] 22))
      have HR0 : Hid (Row (wr.alloc (.cells #[.slice (some ⟨w.heap.size, 0, none⟩) k k] 22)) w.heap.size 0 k (levQ f 0)) := hid ((HM.out.row.congr fun j hj => by rw [if_pos hj]).kept ((Below.refl wr.heap.size wr).alloc (Nat.le_refl _) _) hBlt)
      clear hBlt HM HR
      go_wp2_with fail
      generalize wr.alloc (.cells #[.slice (some ⟨w.heap.size, 0, none⟩) k k] 22) = W0 at HO HB HR0 ⊢
      go_loopg [3, 6] n (fun q r a ws => ∃ (t g c v v2 m : Nat) (A : Nat → Option Addr) (C : Nat → Nat), t ≤ n ∧ q = n - t ∧ r = .slice (some ⟨g, 0, none⟩) m m ∧ a = .slice (some ⟨v, 0, none⟩) (t + 1) c ∧ 1 ≤ m ∧ m ≤ 256 ∧ Hid (m = 2 ^ (n - t)) ∧ Hid (Row ws g 0 m (levQ f t)) ∧ Hid (OwnV ws w.heap.size (.slice (some ⟨v, 0, none⟩) (t + 1) c) (t + 1) A (fun t => 2 ^ (n - t)) C (levQ f)) ∧ Hid (Below w.heap.size w ws))
      case atStart => exact ⟨0, _, _, _, 0, k, _, _, by omega, rfl, rfl, rfl, hN1, hN2, hid HN.out, HR0, HO, HB⟩
      case round =>
        clear HO HB HR0
        obtain ⟨t, g, c, v, v2, m, A, C, ht, rfl, rfl, rfl, hm1, hm2, HM2, HRt, HO, HB⟩ := hrel
        by_cases hlt : t < n
        · obtain ⟨h, rfl, hh1⟩ := half_of2 hlt HM2.out
          have HH : Hid (h = 2 ^ (n - (t + 1))) := hid (by have := HM2.out; rw [show n - t = (n - (t + 1)) + 1 from by omega, Nat.pow_succ] at this; omega)
          have HPD := hid (paired_ok g 0 h (2 * h) (levQ f t) wr hh1 (by omega) HRt.out (fun j => by have := levQ_rng f t j; omega))
          have g1 : (1 : Int) < ((2 * h : Nat) : Int) := by omega
          have g2 : (1 : Int) < 2 * (h : Int) := by omega
          go_wp2_with (first
            | (go_at_call 100; refine (HPD.out).mono ?_; rintro e w1 ⟨rfl, hm⟩; have HO1 := hid (HO.out.kept hm.below); have HB1 := hid (HB.out.trans (hm.below.mono HB.out.size)); have HMD := hid hm; clear hm)
            | (at_builtin; refine wpList_append_lies _ rfl _ _ 36 rfl w.heap.size 22 i1 (.slice none 0 0) 1 24 Tryz.underlying36 HJ.out.1 HJ.out.2.1 HJ.out.2.2.1 HJ.out.2.2.2 rfl (by decide) _ _ _ rfl (World.ownsRow.alloc HO1.out.own _) ⟨w1.heap.size, 0, none⟩ 1 1 [.slice (some ⟨wr.heap.size, 0, none⟩) h h] rfl rfl ?qc2 ?qc3 ?qc4 ?qc5 ?qc6 ?qc7 (w1.heap.size + 1) ?qc8 ?_))
          case qc2 =>
            intro j u hj
            match j, hj with
            | 0, hj => simp at hj; subst hj; simp [Addr.add]
          case qc3 => intro u hu; simp at hu; subst hu; rfl
          case qc4 => omega
          case qc5 => unfold maxLen; omega
          case qc6 => omega
          case qc7 => have := HB1.out.size; simp; omega
          case qc8 => simp
          intro g2 c2 w6 hown2 hgrow2 hat2 hlt3
          have hbn := (Below.refl w1.heap.size w1).alloc (Nat.le_refl _) (.cells #[.slice (some ⟨wr.heap.size, 0, none⟩) h h] 22)
          have hwlt : wr.heap.size < w1.heap.size := HMD.out.row.lt hh1
          have hrow := HMD.out.row.kept hbn hwlt
          have hfar : ∀ a, some (⟨wr.heap.size, 0, none⟩ : Addr) = some a → (Value.slice (some ⟨v, 0, none⟩) (t + 1) c).ownBlock ≠ some a.block := fun a ha => by injection ha with ha; subst ha; exact HO.out.far (Nat.le_refl _)
          have hnext := (HO1.out.kept hbn).next hown2 hgrow2 (by simpa using hat2) (fun a ha => by injection ha with ha; subst ha; simp; omega) hfar (PRow.of hrow)
          have hg2 : wr.heap.size ≠ g2 := fun e => by have h1 := hnext.apart (t + 1) (by omega) ⟨wr.heap.size, 0, none⟩ (by rw [putO, if_pos rfl]); exact h1 (by rw [e]; rfl)
          have HR6 : Hid (Row w6 wr.heap.size 0 h (levQ f (t + 1))) := hid (fun j hj => (World.cell?_of_block (hgrow2.block wr.heap.size (by simp; omega) (fun e => HO.out.far (Nat.le_refl _) e.symm))).trans (hrow j hj))
          have HO6 : Hid (OwnV w6 w.heap.size (.slice (some ⟨g2, 0, none⟩) (t + 1 + 1) c2) (t + 1 + 1) (putO A (t + 1) (some ⟨wr.heap.size, 0, none⟩)) (fun t => 2 ^ (n - t)) (putA C (t + 1) h) (levQ f)) := hid (hnext.congr (fun _ _ => rfl) (fun i hi => by unfold putA; by_cases e : i = t + 1 <;> simp [e, HH.out]) (fun _ _ => rfl) (fun i j _ _ => by unfold putF; by_cases e : i = t + 1 <;> simp [e, levQ]))
          have HB6 : Hid (Below w.heap.size w w6) := hid ((HB1.out.alloc HB1.out.size _).grown hgrow2 (by have := HB1.out.size; simp; omega) (by intro t ht; exact (World.ownsRow.lt HO1.out.own t ht).1))
          clear hown2 hgrow2 hat2 hlt3 hbn hrow hfar hnext hg2
          go_wp2_with fail
          go_roundg (n - (t + 1))
          case measure => go_light; omega
          case rel => exact ⟨t + 1, _, _, _, 0, h, _, _, by omega, rfl, rfl, rfl, hh1, by omega, HH, HR6, HO6, HB6⟩
        · have e : t = n := by omega
          subst e
          have hm : m = 1 := by have := HM2.out; rw [Nat.sub_self, Nat.pow_zero] at this; exact this
          subst hm
          go_wp2_with fail
          go_ret
          obtain ⟨ao, cc, e, hc, hl⟩ := HO.out.is
          exact ⟨ao, cc, A, C, by rw [e]; rfl, hc, ⟨hl⟩, HB.out⟩

theorem lev_in {n k i : Nat} (hk : k < n) (hi : i < 2 ^ n) : sib (i / 2 ^ k) < 2 ^ (n - k) ∧ i / 2 ^ k < 256 ∨ 8 < n := by
  by_cases h8 : 8 < n
  · exact .inr h8
  · left
    have e : 2 ^ n = 2 ^ k * 2 ^ (n - k) := by rw [← Nat.pow_add]; congr 1; omega
    have h1 : i / 2 ^ k < 2 ^ (n - k) := by
      rw [Nat.div_lt_iff_lt_mul (Nat.two_pow_pos k), Nat.mul_comm, ← e]; exact hi
    have h2 : 2 ^ (n - k) = 2 * 2 ^ (n - k - 1) := by rw [show n - k = (n - k - 1) + 1 from by omega, two_pow_succ]; simp; omega
    have h3 : 2 ^ (n - k) ≤ 2 ^ 8 := Nat.pow_le_pow_right (by omega) (by omega)
    rw [h2] at h1 ⊢
    exact ⟨sib_lt h1, by omega⟩
set_option maxHeartbeats 4000000 in
set_option maxRecDepth 100000 in
theorem pathIn_ok (n N i cap : Nat) (ao : Option Addr) (A : Nat → Option Addr) (C : Nat → Nat) (f : Nat → Int) (w : World) (hn : n ≤ 8) (hN : N = 2 ^ n) (hi : i < N) (hr : Rws w ao n A C f) :
    Calls Tryz.prog 81 #[.slice ao (n + 1) cap, .int .i64 (i : Int)] w fun e w' => e = .returned (.slice (some ⟨w.heap.size, 0, none⟩) n n) ∧ Made w w' n (pathQ n f i) ∧ w.heap.size < w'.heap.size := by
  have HRW := hid hr
  have HI := hid (hN ▸ hi)
  have hN2 : N ≤ 256 := by rw [hN]; exact pow_256 hn
  have hi2 : i < 256 := by omega
  clear hr hN hi hN2
  have s1 : IntKind.i64.wrap (((n + 1 : Nat) : Int) - 1) = (n : Int) := by rw [show ((n + 1 : Nat) : Int) - 1 = (n : Int) from by omega]; exact IntWalk.i64_in _ (by omega)
  have hmk := run_make_row' (P := Tryz.prog) 22 31 (.int .u64 0) 8 Tryz.underlying22 Tryz.infoM rfl .i64 .i64 n (by omega) (by omega)
  go_enter Tryz.func81, Tryz.ntmps81
  go_wp2_with fail
  clear hmk
  go_loopg [13] n (fun q x wr => ∃ k : Nat, k ≤ n ∧ q = n - k ∧ x = .int .i64 (k : Int) ∧ Hid (Made w wr n (fun j => if j < k then pathQ n f i j else 0)) ∧ Hid (w.heap.size < wr.heap.size))
  case atStart => exact ⟨0, by omega, rfl, rfl, hid ((Made.start w n 31).congr fun j _ => by rw [if_neg (by omega)]), hid (by simp)⟩
  case round =>
    obtain ⟨k, hk, rfl, rfl, HM, HS⟩ := hrel
    by_cases hlt : k < n
    · obtain ⟨ba, oa, rfl, hat⟩ := (HRW.out.kept HM.out.below).at
      obtain ⟨b2, o2, hc2, hr2⟩ := hat k (by omega)
      have hin : sib (i / 2 ^ k) < 2 ^ (n - k) ∧ i / 2 ^ k < 256 := by
        rcases lev_in hlt HI.out with h | h
        · exact h
        · omega
      have hy : pathQ n f i k = levQ f k (sib (i / 2 ^ k)) := path_lev n f i k HI.out hlt
      obtain ⟨m, hm⟩ : ∃ m : Nat, i / 2 ^ k = m := ⟨_, rfl⟩
      have hmi : (i : Int) / 2 ^ k = (m : Int) := by rw [← hm]; simp
      rw [hm] at hin hy
      obtain ⟨hs1, hm1⟩ := hin
      have hx := xor_sib m hm1
      have c1 := hr2 (sib m) hs1
      rw [← hy] at c1
      obtain ⟨s, hs⟩ : ∃ s, sib m = s := ⟨_, rfl⟩
      rw [hs] at hx c1 hs1
      obtain ⟨L, hL⟩ : ∃ L, 2 ^ (n - k) = L := ⟨_, rfl⟩
      rw [hL] at hc2 hs1
      obtain ⟨y, hyy⟩ : ∃ y, pathQ n f i k = y := ⟨_, rfl⟩
      rw [hyy] at c1
      have HY := hid hyy.symm
      have c3 := HM.out.cell k hlt
      have f3 := HM.out.frozen k hlt
      rw [if_neg (by omega)] at c3
      clear hy hyy hm hs hL hr2 hat
      have k0 : (0 : Int) ≤ (k : Int) := by omega
      have k1 : (k : Int) < (n : Int) := by omega
      have k2 : (k : Int) < ((n + 1 : Nat) : Int) := by omega
      have k3 : (k : Int) < (n : Int) + 1 := by omega
      have k4 : (0 : Int) ≤ (s : Int) := by omega
      have k5 : (s : Int) < (L : Int) := by omega
      go_wp2_with fail
      go_region
      all_goals (go_wp2_with fail)
      all_goals (go_roundg (n - (k + 1)))
      all_goals first | (go_light; omega) | skip
      all_goals exact ⟨k + 1, by omega, rfl, by go_num, hid (((HM.out.store k _ hlt).congr fun j _ => lev_step _ k j _ HY.out).drew), hid (by have := HS.out; simpa using this)⟩
    · have e : k = n := by omega
      subst e
      go_wp2_with fail
      go_ret
      exact ⟨rfl, HM.out.congr fun j hj => by rw [if_pos hj], HS.out⟩

set_option maxHeartbeats 8000000 in
set_option maxRecDepth 100000 in
theorem tpaths_ok (n N b off cap np cp : Nat) (ap : Option Addr) (f : Nat → Int) (pl : Nat → Nat) (w : World) (hn : n ≤ 8) (hN : N = 2 ^ n) (ht : Tab w) (hr : Row w b off N f) (hv : Nums f) (hm : np ≤ 1000) (hp : IRowP w ap np fun j => (pl j : Int)) (hi : ∀ j, j < np → pl j < N) :
    Calls Tryz.prog 49 #[.slice (some ⟨b, off, none⟩) N cap, .slice ap np cp] w fun e w' => ∃ W a, e = .returned (.tuple #[.slice (some ⟨W.heap.size, 0, none⟩) np np, .int .i64 0]) ∧ Below w.heap.size w W ∧ Lays W w' np np n a (fun k => pathQ n f (pl k)) := by
  have HVA := hid (vars_ok (some ⟨b, off, none⟩) n N cap w hn hN ht)
  have HRO := hid (rows_ok n N b off cap f w hn hN hr hv)
  have HN := hid hN
  have HP := hid hp
  have HI := hid hi
  have hN2 : N ≤ 256 := by rw [hN]; exact pow_256 hn
  clear ht hr hv hN hp hi
  go_enter Tryz.func49, Tryz.ntmps49
  go_wp2_with (go_at_call 39; refine (HVA.out).mono ?_; rintro e w' ⟨rfl, hw⟩; obtain rfl := hw.symm)
  clear HVA
  go_loopg [24] np (fun q x wr => ∃ k : Nat, k ≤ np ∧ q = np - k ∧ x = .int .i64 (k : Int) ∧ Hid (wr = w))
  case atStart => exact ⟨0, by omega, rfl, rfl, hid rfl⟩
  case round =>
    obtain ⟨k, hk, rfl, rfl, HW⟩ := hrel
    obtain rfl := HW.out
    by_cases hlt : k < np
    · obtain ⟨bp, op, rfl, hrp⟩ := HP.out (by omega)
      have c1 := hrp k hlt
      have hq := HI.out k hlt
      dsimp only at c1
      obtain ⟨p, hpp⟩ : ∃ p, pl k = p := ⟨_, rfl⟩
      rw [hpp] at c1 hq
      clear hrp hpp
      have k0 : (0 : Int) ≤ (k : Int) := by omega
      have k1 : (k : Int) < (np : Int) := by omega
      have p0 : ¬ (p : Int) < 0 := by omega
      have p1 : ¬ (N : Int) ≤ (p : Int) := by omega
      have d1 : decide (N ≤ p) = false := decide_eq_false (by omega)
      have d2 : decide ((p : Int) < 0) = false := decide_eq_false (by omega)
      have d3 : ¬ N ≤ p := by omega
      go_wp2_with fail
      go_roundg (np - (k + 1))
      case measure => go_light; omega
      case rel => exact ⟨k + 1, by omega, rfl, by go_num, hid rfl⟩
    · have e : k = np := by omega
      subst e
      clear HW
      have hmk := run_make_row' (P := Tryz.prog) 36 22 (.slice none 0 0) 24 Tryz.underlying36 Tryz.infoL rfl .i64 .i64 k (by omega) (by omega)
      go_wp2_with (go_at_call 66; refine (HRO.out).mono ?_; rintro e w1 ⟨ao, c, A, C, rfl, hc, hrw, hb⟩; have HRW := hid hrw; have HB := hid hb; clear hrw hb)
      clear hmk HRO
      have HST := hid (Lays.start w1 k n (fun _ => 0) (fun k => pathQ n f (pl k)) 22)
      go_loopg [44] k (fun q x ws => ∃ (t : Nat) (a : Nat → Nat), t ≤ k ∧ q = k - t ∧ x = .int .i64 (t : Int) ∧ Hid (Lays w1 ws k t n a (fun k => pathQ n f (pl k))))
      case atStart => exact ⟨0, _, by omega, rfl, rfl, HST⟩
      case round =>
        clear HST
        obtain ⟨t, a, htk, rfl, rfl, HY⟩ := hrel
        by_cases hlt : t < k
        · obtain ⟨bp, op, rfl, hrp⟩ := ((HP.out.kept HB.out).kept HY.out.below) (by omega)
          have c1 := hrp t hlt
          have hq := HI.out t hlt
          dsimp only at c1
          have HPI := hid (pathIn_ok n N (pl t) c ao A C f wr hn HN.out hq (HRW.out.kept HY.out.below))
          obtain ⟨p, hpp⟩ : ∃ p, pl t = p := ⟨_, rfl⟩
          rw [hpp] at c1 hq HPI
          have HPP := hid hpp
          have c2 := HY.out.todo t (Nat.le_refl _) hlt
          have f2 := HY.out.free t hlt
          clear hrp hpp
          have k0 : (0 : Int) ≤ (t : Int) := by omega
          have k1 : (t : Int) < (k : Int) := by omega
          go_wp2_with (go_at_call 81; refine (HPI.out).mono ?_; rintro e w3 ⟨rfl, hm3, hs3⟩; have c4 := (hm3.below.cell HY.out.lt).trans c2; have f4 := (hm3.below.frozen HY.out.lt).trans f2; have HM3 := hid hm3; have HS3 := hid hs3; clear hm3 hs3)
          go_roundg (k - (t + 1))
          case measure => go_light; omega
          case rel => exact ⟨t + 1, _, by omega, rfl, by go_num, hid ((HY.out.more hlt HS3.out HM3.out.below (Nat.le_refl _) HM3.out.row HM3.out.free).congr fun i j _ _ => by rw [← HPP.out]; unfold putF; by_cases e : i = t <;> simp [e])⟩
        · have e : t = k := by omega
          subst e
          go_wp2_with fail
          go_ret2
          exact ⟨w1, a, rfl, HB.out, HY.out⟩

set_option maxHeartbeats 1000000 in
theorem tpaths_form (ao ap : Option Addr) (N cap np cp : Nat) (w : World) (h : ∀ n, n ≤ 8 → N ≠ 2 ^ n) (hmax : N ≤ maxLen) :
    Calls Tryz.prog 49 #[.slice ao N cap, .slice ap np cp] w fun e w' => e = .returned (.tuple #[.slice none 0 0, .int .i64 4]) ∧ Below w.heap.size w w' := by
  have HV := hid (vars_bad ao N cap w h hmax)
  clear h
  go_enter Tryz.func49, Tryz.ntmps49
  go_wp2_with (go_at_call 39; refine (HV.out).mono ?_; rintro e w' ⟨rfl, hw⟩; obtain rfl := hw.symm)
  go_ret2
  exact ⟨rfl, Below.refl _ _⟩
set_option maxHeartbeats 4000000 in
/-- Of one place that isn't there. -/
theorem tpaths_arg1 (n N cap b : Nat) (ao : Option Addr) (x : Int) (w : World) (hn : n ≤ 8) (hN : N = 2 ^ n) (ht : Tab w) (hx : x < 0 ∨ (N : Int) ≤ x) (hp : w.cell? ⟨b, 0, none⟩ = some (.int .i64 x)) :
    Calls Tryz.prog 49 #[.slice ao N cap, .slice (some ⟨b, 0, none⟩) 1 1] w fun e w' => e = .returned (.tuple #[.slice none 0 0, .int .i64 1]) ∧ Below w.heap.size w w' := by
  have HV := hid (vars_ok ao n N cap w hn hN ht)
  clear hN ht
  go_enter Tryz.func49, Tryz.ntmps49
  go_wp2_with (go_at_call 39; refine (HV.out).mono ?_; rintro e w' ⟨rfl, hw⟩; obtain rfl := hw.symm)
  clear HV
  go_loopg [24] 1 (fun q x wr => q = 1 ∧ x = .int .i64 0 ∧ Hid (wr = w))
  case atStart => exact ⟨rfl, rfl, hid rfl⟩
  case round =>
    obtain ⟨rfl, rfl, HW⟩ := hrel
    obtain rfl := HW.out
    by_cases hneg : x < 0
    · have d2 : decide (x < 0) = true := decide_eq_true hneg
      clear hx
      go_wp2_with fail
      go_ret2
      exact ⟨rfl, Below.refl _ _⟩
    · have h3 : (N : Int) ≤ x := by omega
      have d2 : decide (x < 0) = false := decide_eq_false hneg
      clear hx
      go_wp2_with fail
      go_ret2
      exact ⟨rfl, Below.refl _ _⟩

set_option maxHeartbeats 4000000 in
theorem troot_any (n N b off cap : Nat) (f : Nat → Int) (w : World) (hn : n ≤ 8) (hN : N = 2 ^ n) (ht : Tab w) (hr : Row w b off N f) (hv : Nums f) :
    Calls Tryz.prog 30 #[.slice (some ⟨b, off, none⟩) N cap] w fun e w' => e = .returned (.tuple #[.int .u64 (rootQ n f), .int .i64 0]) ∧ Below w.heap.size w w' := by
  have HV := hid (vars_ok (some ⟨b, off, none⟩) n N cap w hn hN ht)
  have HR := hid (rows_ok n N b off cap f w hn hN hr hv)
  clear hN hr hv ht
  have k0 : (0 : Int) ≤ (n : Int) := by omega
  have k1 : (n : Int) < ((n + 1 : Nat) : Int) := by omega
  have k2 : (n : Int) < (n : Int) + 1 := by omega
  go_enter Tryz.func30, Tryz.ntmps30
  go_wp2_with (go_at_call 39; refine (HV.out).mono ?_; rintro e w' ⟨rfl, hw⟩; obtain rfl := hw.symm)
  refine (HR.out).mono ?_
  rintro e w1 ⟨ao, c, A, C, rfl, hc1, hrw, hb⟩
  obtain ⟨ba, oa, rfl, hat⟩ := hrw.at
  obtain ⟨b2, o2, hc2, hr2⟩ := hat n (Nat.le_refl n)
  rw [Nat.sub_self, Nat.pow_zero] at hc2 hr2
  have c2 := hr2 0 (by omega)
  rw [Nat.add_zero] at c2
  have HE := hid (lev_top f n)
  have HB := hid hb
  clear hrw hb hat hr2
  go_wp2_with fail
  go_ret2
  exact ⟨ret_u64_err HE.out, HB.out⟩
theorem troot_ok (n N b off cap : Nat) (f : Nat → Int) (w : World) (hn : n ≤ 8) (hN : N = 2 ^ n) (hc : N ≤ cap) (ht : Tab w) (hr : Row w b off N f) (hv : Nums f) :
    Calls Tryz.prog 30 #[.slice (some ⟨b, off, none⟩) N cap] w fun e w' => e = .returned (.tuple #[.int .u64 (rootQ n f), .int .i64 0]) ∧ Below w.heap.size w w' := troot_any n N b off cap f w hn hN ht hr hv
set_option maxHeartbeats 1000000 in
theorem troot_form (ao : Option Addr) (N cap : Nat) (w : World) (h : ∀ n, n ≤ 8 → N ≠ 2 ^ n) (hmax : N ≤ maxLen) :
    Calls Tryz.prog 30 #[.slice ao N cap] w fun e w' => e = .returned (.tuple #[.int .u64 0, .int .i64 4]) ∧ Below w.heap.size w w' := by
  have HV := hid (vars_bad ao N cap w h hmax)
  clear h
  go_enter Tryz.func30, Tryz.ntmps30
  go_wp2_with (go_at_call 39; refine (HV.out).mono ?_; rintro e w' ⟨rfl, hw⟩; obtain rfl := hw.symm)
  go_ret2
  exact ⟨rfl, Below.refl _ _⟩
end Go.Proofs.YtbchbmelofojkaaGreatDoor
