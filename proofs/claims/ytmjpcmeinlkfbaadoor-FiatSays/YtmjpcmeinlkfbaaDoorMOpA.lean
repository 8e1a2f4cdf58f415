/-
  Several texts in one: OwnV, Tree, Qui, Opn, TreeCl, OpA; each opens with what it holds.
-/
import Derived.Test.YtmjpcmeinlkfbaaDoorOwnL
import Derived.Test.YtmjpcmeinlkfbaaDoorMFiat
import Derived.Test.YtmjpcmeinlkfbaaDoorMem
import Derived.BigQuiet
import Derived.Test.YtmjpcmeinlkfbaaDoorMSum
import Derived.Test.YtmjpcmeinlkfbaaDoorOwn
import Derived.Deep.RegionWith
import Derived.Deep.RegionHeld3
/-
  Lists of lists of whatever lengths that a call itself makes and appends to: what append leaves, what stays; lists of whole numbers (places) in memory.
-/
namespace Go.Proofs.YtmjpcmeinlkfbaaDoor
open Go.RowKit
set_option linter.unusedVariables false

/-- Lists as the cells of a row. -/
def slv (n : Nat) (A : Nat → Option Addr) (L C : Nat → Nat) : List Value := (List.range n).map fun i => Value.slice (A i) (L i) (C i)
theorem slv_len (n : Nat) (A : Nat → Option Addr) (L C : Nat → Nat) : (slv n A L C).length = n := by simp [slv]
theorem slv_at (n : Nat) (A : Nat → Option Addr) (L C : Nat → Nat) (i : Nat) (h : i < n) : (slv n A L C)[i]? = some (.slice (A i) (L i) (C i)) := by simp [slv, h]
theorem slv_past (n : Nat) (A : Nat → Option Addr) (L C : Nat → Nat) (i : Nat) (h : n ≤ i) : (slv n A L C)[i]? = none := by simp [slv, h]
def putO (a : Nat → Option Addr) (k : Nat) (b : Option Addr) (i : Nat) : Option Addr := if i = k then b else a i
theorem slv_snoc (n : Nat) (A : Nat → Option Addr) (L C : Nat → Nat) (b : Option Addr) (l d : Nat) : slv n A L C ++ [.slice b l d] = slv (n + 1) (putO A n b) (putA L n l) (putA C n d) := by
  apply List.ext_getElem?
  intro j
  by_cases h : j < n
  · rw [List.getElem?_append_left (by rw [slv_len]; exact h), slv_at n A L C j h, slv_at _ _ _ _ j (by omega), putO, putA, putA, if_neg (by omega), if_neg (by omega), if_neg (by omega)]
  · rw [List.getElem?_append_right (by rw [slv_len]; omega), slv_len]
    by_cases h2 : j = n
    · subst h2
      rw [slv_at _ _ _ _ j (by omega), putO, putA, putA, if_pos rfl, if_pos rfl, if_pos rfl]
      simp
    · rw [slv_past _ _ _ _ j (by omega), List.getElem?_eq_none (by simp; omega)]
/-- v is a list of the call's own: n lists, list i of L i numbers F i, none of them in v's own block. -/
structure OwnV (w : World) (base : Nat) (v : Value) (n : Nat) (A : Nat → Option Addr) (L C : Nat → Nat) (F : Nat → Nat → Int) : Prop where
  own : w.ownsRow base 25 1 v n (slv n A L C)
  apart : ∀ i, i < n → ∀ a, A i = some a → v.ownBlock ≠ some a.block
  lt : ∀ i, i < n → ∀ a, A i = some a → a.block < w.heap.size
  row : ∀ i, i < n → PRow w (A i) (L i) (F i)
theorem OwnV.nil (w : World) (base : Nat) (A : Nat → Option Addr) (L C : Nat → Nat) (F : Nat → Nat → Int) : OwnV w base (.slice none 0 0) 0 A L C F :=
  ⟨World.ownsRow_nil w base 25 1, fun i hi => absurd hi (by omega), fun i hi => absurd hi (by omega), fun i hi => absurd hi (by omega)⟩
/-- A list that is laid with one list in it. -/
theorem OwnV.one (w : World) (base : Nat) (a : Option Addr) (l c : Nat) (f : Nat → Int) (hb : base ≤ w.heap.size) (hl : ∀ x, a = some x → x.block < w.heap.size) (hr : PRow w a l f) :
    OwnV (w.alloc (.cells #[.slice a l c] 25)) base (.slice (some ⟨w.heap.size, 0, none⟩) 1 1) 1 (fun _ => a) (fun _ => l) (fun _ => c) (fun _ => f) :=
  ⟨World.ownsRow_lit w #[.slice a l c] 1 hb (by unfold maxLen; omega) rfl, fun i hi x hx e => by have h1 := hl x hx; have h2 : w.heap.size = x.block := Option.some.inj e; omega, fun i hi x hx => by have := hl x hx; simp; omega, fun i hi => hr.kept ((Below.refl _ w).alloc (Nat.le_refl _) _)⟩
theorem OwnV.drew {w : World} {base : Nat} {v : Value} {n : Nat} {A : Nat → Option Addr} {L C : Nat → Nat} {F : Nat → Nat → Int} (h : OwnV w base v n A L C F) : OwnV w.drew base v n A L C F := ⟨h.own, h.apart, h.lt, h.row⟩
theorem OwnV.kept {w w' : World} {base : Nat} {v : Value} {n : Nat} {A : Nat → Option Addr} {L C : Nat → Nat} {F : Nat → Nat → Int} (h : OwnV w base v n A L C F) (hb : Below w.heap.size w w') : OwnV w' base v n A L C F := by
  refine ⟨?_, h.apart, fun i hi a e => Nat.lt_of_lt_of_le (h.lt i hi a e) hb.size, fun i hi => (h.row i hi).kept hb⟩
  refine ⟨h.own.1, ?_⟩
  rcases h.own.2 with h2 | ⟨g, cap, cur, hv, hg, hh, r⟩
  · exact .inl h2
  · have hlt : g < w.heap.size := (Array.getElem?_eq_some_iff.1 hh).1
    exact .inr ⟨g, cap, cur, hv, hg, (hb.block g hlt).trans hh, r⟩
theorem OwnV.far {w : World} {base : Nat} {v : Value} {n b : Nat} {A : Nat → Option Addr} {L C : Nat → Nat} {F : Nat → Nat → Int} (h : OwnV w base v n A L C F) (hb : w.heap.size ≤ b) : v.ownBlock ≠ some b := fun e => by have := (h.own.lt b e).2; omega
theorem OwnV.is {w : World} {base : Nat} {v : Value} {n : Nat} {A : Nat → Option Addr} {L C : Nat → Nat} {F : Nat → Nat → Int} (h : OwnV w base v n A L C F) : ∃ ao cap, v = .slice ao n cap ∧ n ≤ cap ∧ LRow w ao n A L C F := by
  have ho := h.own
  rcases ho.2 with ⟨rfl, rfl⟩ | ⟨g, cap, cur, rfl, _, _, hle, _⟩
  · exact ⟨none, 0, rfl, Nat.le_refl _, fun h0 => by omega⟩
  · refine ⟨some ⟨g, 0, none⟩, cap, rfl, hle, fun _ => ⟨g, 0, rfl, fun i hi => ⟨?_, h.row i hi⟩⟩⟩
    rw [Nat.zero_add, ho.cellAt i (by omega), slv_at n A L C i hi]
/-- One list more: what append left. -/
theorem OwnV.next {w w' : World} {base : Nat} {v : Value} {n : Nat} {A : Nat → Option Addr} {L C : Nat → Nat} {F : Nat → Nat → Int} {g cap l d : Nat} {ao : Option Addr} {f : Nat → Int} (h : OwnV w base v n A L C F)
    (ho : w'.ownsRow base 25 1 (.slice (some ⟨g, 0, none⟩) (n + 1) cap) (n + 1) (slv n A L C ++ [.slice ao l d])) (hg : w.grownBy w' v.ownBlock) (hat : v.ownBlock = some g ∨ g = w.heap.size)
    (hb : ∀ a, ao = some a → a.block < w.heap.size) (hne : ∀ a, ao = some a → v.ownBlock ≠ some a.block) (hr : PRow w ao l f) : OwnV w' base (.slice (some ⟨g, 0, none⟩) (n + 1) cap) (n + 1) (putO A n ao) (putA L n l) (putA C n d) (putF F n f) := by
  have far : ∀ k, k < w.heap.size → v.ownBlock ≠ some k → some g ≠ some k := fun k hk hk2 e => by
    rcases hat with e1 | e1
    · exact hk2 (e1.trans e)
    · have := Option.some.inj e; omega
  have krow : ∀ (ao : Option Addr) (l : Nat) (f : Nat → Int), (∀ a, ao = some a → a.block < w.heap.size) → (∀ a, ao = some a → v.ownBlock ≠ some a.block) → PRow w ao l f → PRow w' ao l f := fun ao l f hk hk2 hr h0 => by
    obtain ⟨b, off, e, hr2⟩ := hr h0
    exact ⟨b, off, e, fun j hj => (World.cell?_of_block (hg.block b (hk _ e) (fun e2 => hk2 _ e e2.symm))).trans (hr2 j hj)⟩
  refine ⟨by rw [← slv_snoc]; exact ho, fun i hi a ha => ?_, fun i hi a ha => ?_, fun i hi => ?_⟩
  · show some g ≠ _
    by_cases e : i = n
    · rw [putO, if_pos e] at ha; exact far _ (hb a ha) (hne a ha)
    · rw [putO, if_neg e] at ha; exact far _ (h.lt i (by omega) a ha) (h.apart i (by omega) a ha)
  · by_cases e : i = n
    · rw [putO, if_pos e] at ha; exact Nat.lt_of_lt_of_le (hb a ha) hg.size
    · rw [putO, if_neg e] at ha; exact Nat.lt_of_lt_of_le (h.lt i (by omega) a ha) hg.size
  · by_cases e : i = n
    · rw [putO, if_pos e, putA, if_pos e, putF, if_pos e]; exact krow ao l f hb hne hr
    · rw [putO, if_neg e, putA, if_neg e, putF, if_neg e]; exact krow _ _ _ (h.lt i (by omega)) (h.apart i (by omega)) (h.row i (by omega))
theorem OwnV.congr {w : World} {base : Nat} {v : Value} {n : Nat} {A A' : Nat → Option Addr} {L L' C C' : Nat → Nat} {F F' : Nat → Nat → Int} (h : OwnV w base v n A L C F) (eA : ∀ i, i < n → A i = A' i) (eL : ∀ i, i < n → L i = L' i) (eC : ∀ i, i < n → C i = C' i) (eF : ∀ i j, i < n → j < L i → F i j = F' i j) : OwnV w base v n A' L' C' F' := by
  have e : slv n A L C = slv n A' L' C' := by
    unfold slv
    exact List.map_congr_left fun j hj => by have hj := List.mem_range.1 hj; rw [eA j hj, eL j hj, eC j hj]
  refine ⟨e ▸ h.own, fun i hi a ha => h.apart i hi a ((eA i hi).trans ha), fun i hi a ha => h.lt i hi a ((eA i hi).trans ha), fun i hi => ?_⟩
  rw [← eA i hi, ← eL i hi]
  exact (h.row i hi).congr fun j hj => eF i j hi hj

/-- n whole numbers of 64 bits lie there, if any. -/
def IRowP (w : World) (ao : Option Addr) (n : Nat) (p : Nat → Int) : Prop := 0 < n → ∃ b off, ao = some ⟨b, off, none⟩ ∧ ∀ j, j < n → w.cell? ⟨b, off + j, none⟩ = some (.int .i64 (p j))
theorem IRowP.kept {w w' : World} {ao : Option Addr} {n : Nat} {p : Nat → Int} (h : IRowP w ao n p) (hb : Below w.heap.size w w') : IRowP w' ao n p := fun hn => by
  obtain ⟨b, off, e, hr⟩ := h hn
  exact ⟨b, off, e, fun j hj => (hb.cell (World.block_lt_of_cell? w _ (hr j hj))).trans (hr j hj)⟩
theorem IRowP.drew {w : World} {ao : Option Addr} {n : Nat} {p : Nat → Int} (h : IRowP w ao n p) : IRowP w.drew ao n p := h
theorem IRowP.congr {w : World} {ao : Option Addr} {n : Nat} {p q : Nat → Int} (h : IRowP w ao n p) (e : ∀ j, j < n → p j = q j) : IRowP w ao n q := fun hn => by
  obtain ⟨b, off, e1, hr⟩ := h hn
  exact ⟨b, off, e1, fun j hj => by rw [← e j hj]; exact hr j hj⟩
theorem IRowP.one (w : World) (x : Int) (t : TypeId) : IRowP (w.alloc (.cells #[.int .i64 x] t)) (some ⟨w.heap.size, 0, none⟩) 1 (fun _ => x) := fun _ => ⟨_, _, rfl, fun j hj => by
  rw [Nat.zero_add, World.cell?_alloc_new]
  match j, hj with
  | 0, _ => rfl⟩
/-- Lists of like length made and stored: one list more, whatever its length. -/
theorem Lays.more {w w' w1 : World} {n k N b : Nat} {a : Nat → Nat} {F : Nat → Nat → Int} {f : Nat → Int} (h : Lays w w' n k N a F) (hk : k < n) (hb1 : b < w1.heap.size) (hb : Below w'.heap.size w' w1) (hB : w'.heap.size ≤ b) (hr : Row w1 b 0 N f) (hf : Free w1 b 0 N) :
    Lays w (w1.setCell ⟨w.heap.size, k, none⟩ (.slice (some ⟨b, 0, none⟩) N N)) n (k + 1) N (putA a k b) (putF F k f) := by
  have h1 := h.kept hb
  have hlt := h.lt
  have hW : Wrote w.heap.size k 1 w1 (w1.setCell ⟨w.heap.size, k, none⟩ (.slice (some ⟨b, 0, none⟩) N N)) := (Wrote.refl _ _ _ _).store (Nat.le_refl _) (by omega) _
  refine ⟨h1.below.setCell (Nat.le_refl _) _, by rw [World.size_setCell]; exact h1.lt, fun i hi => ?_, fun i h2 hi => ?_, fun i hi => by rw [World.frozen?_setCell]; exact h1.free i hi, fun i hi => ?_, fun i j hij hj => ?_, fun i hi => ?_, fun i hi => ?_⟩
  · by_cases e : i = k
    · subst e
      rw [World.cell?_setCell_same _ _ _ (h1.todo i (Nat.le_refl _) hk), putA, if_pos rfl]
    · rw [hW.cell i (by omega), h1.cell i (by omega), putA, if_neg e]
  · rw [hW.cell i (by omega), h1.todo i (by omega) hi]
  · rw [World.size_setCell]
    by_cases e : i = k
    · rw [putA, if_pos e]; omega
    · rw [putA, if_neg e]; exact h1.high i (by omega)
  · rw [putA, if_neg (by omega)]
    by_cases e : j = k
    · rw [putA, if_pos e]
      have := (h.high i (by omega)).2
      omega
    · rw [putA, if_neg e]; exact h.apart i j hij (by omega)
  · by_cases e : i = k
    · rw [putA, if_pos e, putF, if_pos e]; exact hr.other hW (by omega)
    · rw [putA, if_neg e, putF, if_neg e]; exact (h1.row i (by omega)).other hW (by have := (h1.high i (by omega)).1; omega)
  · have hfr : ∀ c, Free w1 c 0 N → Free (w1.setCell ⟨w.heap.size, k, none⟩ (.slice (some ⟨b, 0, none⟩) N N)) c 0 N := fun c hc j hj => by rw [World.frozen?_setCell]; exact hc j hj
    by_cases e : i = k
    · rw [putA, if_pos e]; exact hfr _ hf
    · rw [putA, if_neg e]; exact hfr _ (h1.may i (by omega))

end Go.Proofs.YtmjpcmeinlkfbaaDoor

/-
  Plain: trees of pairs: the root of a table, the path of a place, what one comes to by a path; from the root down, and level by level; no program in it.
-/
namespace Go.Proofs.YtmjpcmeinlkfbaaDoor
open Go.RowKit
set_option linter.unusedVariables false

/-- What Pair answers. -/
def prQ (a b : Int) : Int := ofK (pairK a b)
theorem prQ_rng (a b : Int) : 0 ≤ prQ a b ∧ prQ a b ≤ 2305843009213693950 := ofK_rng _
theorem prQ_nrm_l (a b : Int) : prQ (nrm a) b = prQ a b := by unfold prQ; rw [pairK_congr (kk_nrm a) rfl]
theorem prQ_nrm_r (a b : Int) : prQ a (nrm b) = prQ a b := by unfold prQ; rw [pairK_congr rfl (kk_nrm b)]
/-- The root of 2^n numbers. -/
def rootQ : Nat → (Nat → Int) → Int
  | 0, f => prQ (f 0) 0
  | n + 1, f => prQ (rootQ n f) (rootQ n fun j => f (2 ^ n + j))
theorem rootQ_rng (n : Nat) (f : Nat → Int) : 0 ≤ rootQ n f ∧ rootQ n f ≤ 2305843009213693950 := by
  cases n with
  | zero => exact prQ_rng _ _
  | succ n => exact prQ_rng _ _
theorem rootQ_congr (n : Nat) : ∀ {f g : Nat → Int}, (∀ j, j < 2 ^ n → f j = g j) → rootQ n f = rootQ n g := by
  induction n with
  | zero => intro f g h; rw [rootQ, rootQ, h 0 (by omega)]
  | succ n ih =>
    intro f g h
    rw [rootQ, rootQ, ih fun j hj => h j (by rw [two_pow_succ]; omega), ih fun j hj => h (2 ^ n + j) (by rw [two_pow_succ]; omega)]
theorem half_one {i z : Nat} (h : ¬ i < z) (hi : i < z + z) : i / z = 1 := Nat.div_eq_of_lt_le (by omega) (by omega)
/-- Number j of the path of place i, from the lowest on. -/
def pathQ : Nat → (Nat → Int) → Nat → Nat → Int
  | 0, _, _, _ => 0
  | n + 1, f, i, j => if i < 2 ^ n then (if j < n then pathQ n f i j else rootQ n fun j => f (2 ^ n + j)) else (if j < n then pathQ n (fun j => f (2 ^ n + j)) (i - 2 ^ n) j else rootQ n f)
theorem pathQ_rng (n : Nat) : ∀ (f : Nat → Int) (i j : Nat), 0 ≤ pathQ n f i j ∧ pathQ n f i j ≤ 2305843009213693950 := by
  induction n with
  | zero => intro f i j; rw [pathQ]; omega
  | succ n ih =>
    intro f i j
    rw [pathQ]
    split
    · split
      · exact ih _ _ _
      · exact rootQ_rng _ _
    · split
      · exact ih _ _ _
      · exact rootQ_rng _ _
/-- What one comes to from a leaf at place i by n numbers of a path. -/
def climbQ : Nat → Nat → Int → (Nat → Int) → Int
  | 0, _, leaf, _ => prQ leaf 0
  | n + 1, i, leaf, p => if i < 2 ^ n then prQ (climbQ n i leaf p) (p n) else prQ (p n) (climbQ n (i - 2 ^ n) leaf p)
theorem climbQ_rng (n i : Nat) (leaf : Int) (p : Nat → Int) : 0 ≤ climbQ n i leaf p ∧ climbQ n i leaf p ≤ 2305843009213693950 := by
  cases n with
  | zero => exact prQ_rng _ _
  | succ n => rw [climbQ]; split <;> exact prQ_rng _ _
theorem climbQ_congr (n : Nat) (leaf : Int) {p q : Nat → Int} : ∀ i, (∀ j, j < n → p j = q j) → climbQ n i leaf p = climbQ n i leaf q := by
  induction n with
  | zero => exact fun _ _ => rfl
  | succ n ih =>
    intro i h
    rw [climbQ, climbQ, ih i fun j hj => h j (by omega), ih (i - 2 ^ n) fun j hj => h j (by omega), h n (by omega)]
/-- MERKLE: by its path one comes from each place to the root. -/
theorem climb_path (n : Nat) : ∀ (f : Nat → Int) (i : Nat), i < 2 ^ n → climbQ n i (f i) (pathQ n f i) = rootQ n f := by
  induction n with
  | zero => intro f i hi; have : i = 0 := by omega
            subst this; rfl
  | succ n ih =>
    intro f i hi
    rw [two_pow_succ] at hi
    rw [climbQ, rootQ]
    by_cases h : i < 2 ^ n
    · rw [if_pos h, climbQ_congr n (f i) i (q := pathQ n f i) fun j hj => by rw [pathQ, if_pos h, if_pos hj], ih f i h]
      rw [pathQ, if_pos h, if_neg (Nat.lt_irrefl n)]
    · rw [if_neg h]
      rw [climbQ_congr n (f i) (i - 2 ^ n) (q := pathQ n (fun j => f (2 ^ n + j)) (i - 2 ^ n)) fun j hj => by rw [pathQ, if_neg h, if_pos hj]]
      have := ih (fun j => f (2 ^ n + j)) (i - 2 ^ n) (by omega)
      rw [show 2 ^ n + (i - 2 ^ n) = i from by omega] at this
      rw [this, pathQ, if_neg h, if_neg (Nat.lt_irrefl n)]

/-- Level k of the tree, from the lowest on. -/
def levQ (f : Nat → Int) : Nat → Nat → Int
  | 0, j => prQ (f j) 0
  | k + 1, j => prQ (levQ f k (2 * j)) (levQ f k (2 * j + 1))
theorem levQ_rng (f : Nat → Int) (k j : Nat) : 0 ≤ levQ f k j ∧ levQ f k j ≤ 2305843009213693950 := by
  cases k with
  | zero => exact prQ_rng _ _
  | succ k => exact prQ_rng _ _
theorem lev_root (f : Nat → Int) (k : Nat) : ∀ j, levQ f k j = rootQ k fun i => f (2 ^ k * j + i) := by
  induction k with
  | zero => intro j; rw [levQ, rootQ]; simp
  | succ k ih =>
    intro j
    rw [levQ, rootQ, ih, ih]
    congr 1
    · refine rootQ_congr k fun i _ => ?_
      rw [Nat.pow_succ, Nat.mul_assoc]
    · refine rootQ_congr k fun i _ => ?_
      rw [Nat.pow_succ, Nat.mul_assoc, Nat.mul_add, Nat.mul_one, Nat.add_assoc]
theorem lev_top (f : Nat → Int) (n : Nat) : levQ f n 0 = rootQ n f := by
  rw [lev_root]
  exact rootQ_congr n fun i _ => by rw [Nat.mul_zero, Nat.zero_add]
theorem levQ_shift (f : Nat → Int) (n k : Nat) (hk : k ≤ n) : ∀ j, levQ (fun i => f (2 ^ n + i)) k j = levQ f k (2 ^ (n - k) + j) := by
  induction k with
  | zero => intro j; rfl
  | succ k ih =>
    intro j
    rw [levQ, levQ, ih (by omega), ih (by omega)]
    have e : 2 ^ (n - k) = 2 * 2 ^ (n - (k + 1)) := by rw [show n - k = (n - (k + 1)) + 1 from by omega, two_pow_succ]; omega
    rw [e, Nat.mul_add, Nat.add_assoc]
/-- The place beside. -/
def sib (m : Nat) : Nat := if m % 2 = 0 then m + 1 else m - 1
theorem path_lev (n : Nat) : ∀ (f : Nat → Int) (i j : Nat), i < 2 ^ n → j < n → pathQ n f i j = levQ f j (sib (i / 2 ^ j)) := by
  induction n with
  | zero => intro f i j _ hj; omega
  | succ n ih =>
    intro f i j hi hj
    rw [two_pow_succ] at hi
    have hpos : 0 < 2 ^ n := Nat.two_pow_pos n
    rw [pathQ]
    by_cases h : i < 2 ^ n
    · rw [if_pos h]
      by_cases hjn : j < n
      · rw [if_pos hjn]; exact ih f i j h hjn
      · have e : j = n := by omega
        subst e
        rw [if_neg hjn, Nat.div_eq_of_lt h, sib, if_pos rfl, lev_root]
        exact rootQ_congr j fun t _ => by rw [Nat.mul_one]
    · rw [if_neg h]
      have hd : i / 2 ^ n = 1 := half_one h hi
      by_cases hjn : j < n
      · rw [if_pos hjn, ih _ (i - 2 ^ n) j (by omega) hjn, levQ_shift f n j (by omega)]
        congr 1
        have e1 : 2 ^ n = 2 ^ j * 2 ^ (n - j) := by rw [← Nat.pow_add]; congr 1; omega
        have e2 : i / 2 ^ j = (i - 2 ^ n) / 2 ^ j + 2 ^ (n - j) := by
          have : i = (i - 2 ^ n) + 2 ^ j * 2 ^ (n - j) := by rw [← e1]; omega
          rw [this, Nat.add_mul_div_left _ _ (Nat.two_pow_pos j), ← e1]
          congr 2
          omega
        have e3 : 2 ^ (n - j) = 2 * 2 ^ (n - j - 1) := by rw [show n - j = (n - j - 1) + 1 from by omega, two_pow_succ]; simp; omega
        rw [e2]
        generalize (i - 2 ^ n) / 2 ^ j = m
        generalize 2 ^ (n - j - 1) = z at e3
        rw [e3]
        unfold sib
        by_cases hm : m % 2 = 0
        · rw [if_pos hm, if_pos (by omega)]; omega
        · rw [if_neg hm, if_neg (by omega)]; omega
      · have e : j = n := by omega
        subst e
        rw [if_neg hjn, hd, sib, if_neg (by omega), lev_root]
        exact rootQ_congr j fun t _ => by rw [Nat.sub_self, Nat.mul_zero, Nat.zero_add]
/-- Up from a leaf, step by step, by the bits of its place. -/
def upC (i : Nat) (leaf : Int) (p : Nat → Int) : Nat → Int
  | 0 => prQ leaf 0
  | k + 1 => if i / 2 ^ k % 2 = 0 then prQ (upC i leaf p k) (p k) else prQ (p k) (upC i leaf p k)
theorem upC_rng (i : Nat) (leaf : Int) (p : Nat → Int) (k : Nat) : 0 ≤ upC i leaf p k ∧ upC i leaf p k ≤ 2305843009213693950 := by
  cases k with
  | zero => exact prQ_rng _ _
  | succ k => rw [upC]; split <;> exact prQ_rng _ _
theorem upC_low (leaf : Int) (p : Nat → Int) (n i : Nat) (h : 2 ^ n ≤ i) (k : Nat) : k ≤ n → upC (i - 2 ^ n) leaf p k = upC i leaf p k := by
  induction k with
  | zero => exact fun _ => rfl
  | succ k ih =>
    intro hk
    rw [upC, upC, ih (by omega)]
    have e1 : 2 ^ n = 2 ^ k * 2 ^ (n - k) := by rw [← Nat.pow_add]; congr 1; omega
    have e2 : i / 2 ^ k = (i - 2 ^ n) / 2 ^ k + 2 ^ (n - k) := by
      have : i = (i - 2 ^ n) + 2 ^ k * 2 ^ (n - k) := by rw [← e1]; omega
      rw [this, Nat.add_mul_div_left _ _ (Nat.two_pow_pos k), ← e1]
      congr 2
      omega
    have e3 : 2 ^ (n - k) = 2 * 2 ^ (n - k - 1) := by rw [show n - k = (n - k - 1) + 1 from by omega, two_pow_succ]; simp; omega
    rw [e2, e3, Nat.add_mul_mod_self_left]
theorem climb_up (leaf : Int) (p : Nat → Int) (n : Nat) : ∀ i, i < 2 ^ n → climbQ n i leaf p = upC i leaf p n := by
  induction n with
  | zero => exact fun _ _ => rfl
  | succ n ih =>
    intro i hi
    rw [two_pow_succ] at hi
    rw [climbQ, upC]
    by_cases h : i < 2 ^ n
    · rw [if_pos h, Nat.div_eq_of_lt h, if_pos rfl, ih i h]
    · have hd : i / 2 ^ n = 1 := half_one h hi
      rw [if_neg h, hd, if_neg (by omega), ih (i - 2 ^ n) (by omega), upC_low leaf p n i (by omega) n (Nat.le_refl n)]

end Go.Proofs.YtmjpcmeinlkfbaaDoor

/-
  A region that draws its order, whose operations only read and whose callees make memory but write nothing that was there, and hand back values that don't hang on where that is: one walk, in the text's order, serves every order (the class of worlds of the kit's theorem on quiet regions: those that keep what was there); no program in it.
-/
namespace Go.Proofs.YtmjpcmeinlkfbaaDoor
open Go.RowKit
set_option linter.unusedVariables false

/-- The worlds in which S holds, and that keep what W has. -/
structure QT (W : World) (S : World → Prop) where
  w : World
  s : S w
  b : Below W.heap.size W w
theorem QT.ne {W : World} {S : World → Prop} (h : S W.drew) : Nonempty (QT W S) := ⟨⟨W.drew, h, (Below.refl _ W).drew⟩⟩
theorem wp_region_grown {P : Program} {id : Nat} {Q : Exit → Act → World → Prop} {a : Act} {w : World} {l : List Oper} (S : World → Prop) (hm : P.follows .mixedOrders = true) (hB : Region.lexB .any l.toArray = true) (hS : S w.drew)
    (h : wpQuiet P l.toArray (fun w' => ∃ t : QT w S, w' = t.w) (fun a' => ∀ w', (∃ t : QT w S, w' = t.w) → Q .normal a' w') l a) : (Code.region id l.toArray true).wp P Q a w :=
  wp_region_quiet (C := fun w' => ∃ t : QT w S, w' = t.w) hm hB ⟨⟨w.drew, hS, (Below.refl _ w).drew⟩, rfl⟩ (by simpa using h)
/-- A callee's contract, met in a world of the class. -/
theorem Calls.grown_of {P : Program} {f : FuncId} {args : Array Value} {W : World} {S : World → Prop} {t : QT W S} {v : Value}
    (h : Calls P f args t.w fun e w' => e = .returned v ∧ Below t.w.heap.size t.w w') (hS : ∀ w', Below t.w.heap.size t.w w' → S w') : Calls P f args t.w fun e w'' => e = .returned v ∧ ∃ t' : QT W S, w'' = t'.w :=
  h.mono fun _ w' ⟨he, hb⟩ => ⟨he, ⟨w', hS w' hb, t.b.trans (hb.mono t.b.size)⟩, rfl⟩
theorem Calls.grown_same {P : Program} {f : FuncId} {args : Array Value} {W : World} {S : World → Prop} {t : QT W S} {v : Value}
    (h : Calls P f args t.w fun e w' => e = .returned v ∧ w' = t.w) : Calls P f args t.w fun e w'' => e = .returned v ∧ ∃ t' : QT W S, w'' = t'.w :=
  h.mono fun _ w' ⟨he, hb⟩ => ⟨he, t, hb⟩

end Go.Proofs.YtmjpcmeinlkfbaaDoor

/-
  Openings, as they are told, in memory: roots, value, looks with their pairs and paths; what stays; plain: what the right opening of a table is, when looks hold; no program in it.
-/
namespace Go.Proofs.YtmjpcmeinlkfbaaDoor
open Go.RowKit
set_option linter.unusedVariables false

/-- n pairs of numbers: pair k has F k 0 and F k 1. -/
def QRow (w : World) (ao : Option Addr) (n : Nat) (F : Nat → Nat → Int) : Prop := 0 < n → ∃ b off, ao = some ⟨b, off, none⟩ ∧ ∀ k, k < n → w.cell? ⟨b, off + 2 * k, none⟩ = some (.int .u64 (F k 0)) ∧ w.cell? ⟨b, off + 2 * k + 1, none⟩ = some (.int .u64 (F k 1))
theorem QRow.kept {w w' : World} {ao : Option Addr} {n : Nat} {F : Nat → Nat → Int} (h : QRow w ao n F) (hb : Below w.heap.size w w') : QRow w' ao n F := fun hn => by
  obtain ⟨b, off, e, hr⟩ := h hn
  exact ⟨b, off, e, fun k hk => ⟨(hb.cell (World.block_lt_of_cell? w _ (hr k hk).1)).trans (hr k hk).1, (hb.cell (World.block_lt_of_cell? w _ (hr k hk).2)).trans (hr k hk).2⟩⟩
/-- n pairs of lists: list e of pair k has L k e numbers. -/
def TRow (w : World) (ao : Option Addr) (n : Nat) (A : Nat → Nat → Option Addr) (L C : Nat → Nat → Nat) (F : Nat → Nat → Nat → Int) : Prop := 0 < n → ∃ b off, ao = some ⟨b, off, none⟩ ∧ ∀ k, k < n →
  w.cell? ⟨b, off + 2 * k, none⟩ = some (.slice (A k 0) (L k 0) (C k 0)) ∧ w.cell? ⟨b, off + 2 * k + 1, none⟩ = some (.slice (A k 1) (L k 1) (C k 1)) ∧ PRow w (A k 0) (L k 0) (F k 0) ∧ PRow w (A k 1) (L k 1) (F k 1)
theorem TRow.kept {w w' : World} {ao : Option Addr} {n : Nat} {A : Nat → Nat → Option Addr} {L C : Nat → Nat → Nat} {F : Nat → Nat → Nat → Int} (h : TRow w ao n A L C F) (hb : Below w.heap.size w w') : TRow w' ao n A L C F := fun hn => by
  obtain ⟨b, off, e, hr⟩ := h hn
  refine ⟨b, off, e, fun k hk => ?_⟩
  obtain ⟨h1, h2, h3, h4⟩ := hr k hk
  exact ⟨(hb.cell (World.block_lt_of_cell? w _ h1)).trans h1, (hb.cell (World.block_lt_of_cell? w _ h2)).trans h2, h3.kept hb, h4.kept hb⟩

/-- The looks of an opening: n of them; look i has np i pairs and nt i pairs of paths. -/
structure OQ where
  n : Nat
  np : Nat → Nat
  nt : Nat → Nat
  P : Nat → Nat → Nat → Int
  tl : Nat → Nat → Nat → Nat
  T : Nat → Nat → Nat → Nat → Int
/-- Where they lie. -/
structure OM where
  pa : Nat → Option Addr
  ta : Nat → Option Addr
  pc : Nat → Nat
  tc : Nat → Nat
  A : Nat → Nat → Nat → Option Addr
  C : Nat → Nat → Nat → Nat
def OpRow (w : World) (ao : Option Addr) (o : OQ) (m : OM) : Prop := 0 < o.n → ∃ b off, ao = some ⟨b, off, none⟩ ∧ ∀ i, i < o.n →
  w.cell? ⟨b, off + 2 * i, none⟩ = some (.slice (m.pa i) (o.np i) (m.pc i)) ∧ w.cell? ⟨b, off + 2 * i + 1, none⟩ = some (.slice (m.ta i) (o.nt i) (m.tc i)) ∧
  QRow w (m.pa i) (o.np i) (o.P i) ∧ TRow w (m.ta i) (o.nt i) (m.A i) (o.tl i) (m.C i) (o.T i)
theorem OpRow.kept {w w' : World} {ao : Option Addr} {o : OQ} {m : OM} (h : OpRow w ao o m) (hb : Below w.heap.size w w') : OpRow w' ao o m := fun hn => by
  obtain ⟨b, off, e, hr⟩ := h hn
  refine ⟨b, off, e, fun k hk => ?_⟩
  obtain ⟨h1, h2, h3, h4⟩ := hr k hk
  exact ⟨(hb.cell (World.block_lt_of_cell? w _ h1)).trans h1, (hb.cell (World.block_lt_of_cell? w _ h2)).trans h2, h3.kept hb, h4.kept hb⟩
theorem OpRow.drew {w : World} {ao : Option Addr} {o : OQ} {m : OM} (h : OpRow w ao o m) : OpRow w.drew ao o m := h
/-- Its numbers are of 64 bits. -/
def OQ.nums (o : OQ) : Prop := ∀ i k e, 0 ≤ o.P i k e ∧ o.P i k e ≤ 18446744073709551615 ∧ Nums (o.T i k e)
/-- It has n pairs and paths a look, of the right lengths. -/
def OQ.form (o : OQ) (n : Nat) : Prop := ∀ i, i < o.n → o.np i = n ∧ o.nt i = n ∧ ∀ k, k < n → o.tl i k 0 = n - k ∧ o.tl i k 1 = n - k

/-- Half of a table of n variables that was folded k times. -/
def hfQ (n k : Nat) : Nat := 2 ^ (n - 1 - k)
theorem hfQ_pos (n k : Nat) : 1 ≤ hfQ n k := Nat.one_le_two_pow
theorem hfQ_two {n k : Nat} (h : k + 1 < n) : hfQ n k = 2 * hfQ n (k + 1) := by
  unfold hfQ
  rw [show n - 1 - k = (n - 1 - (k + 1)) + 1 from by omega, Nat.pow_succ]; omega
theorem hfQ_all {n k : Nat} (h : k < n) : 2 * hfQ n k = 2 ^ (n - k) := by
  unfold hfQ
  rw [show n - k = (n - 1 - k) + 1 from by omega, Nat.pow_succ]; omega
theorem hfQ_le {n k : Nat} (h : n ≤ 8) : hfQ n k ≤ 256 := by
  unfold hfQ
  exact Nat.pow_le_pow_right (j := 8) (by omega) (by omega)
/-- What a look must be folded to, behind its pair k, from place p on: the value, behind the last pair. -/
def nxQ (n : Nat) (P : Nat → Nat → Int) (v : Int) (p k : Nat) : Int := if k + 1 = n then v else P (k + 1) (p % hfQ n k / hfQ n (k + 1))
/-- What a pair is folded to. -/
def btQ (P : Nat → Int) (x : Int) : Int := addQ (P 0) (mulQ x (subQ (P 1) (P 0)))
/-- Pair k of a look of place p holds. -/
def fitB (n : Nat) (rt : Nat → Int) (g : Nat → Int) (v : Int) (P : Nat → Nat → Int) (T : Nat → Nat → Nat → Int) (p k : Nat) : Bool :=
  climbQ (n - k) (p % hfQ n k) (P k 0) (T k 0) == nrm (rt k) && climbQ (n - k) (p % hfQ n k + hfQ n k) (P k 1) (T k 1) == nrm (rt k) && btQ (P k) (g k) == nrm (nxQ n P v p k)
/-- All of the first n. -/
def allB (n : Nat) (f : Nat → Bool) : Bool := (List.range n).all f
theorem allB_succ (n : Nat) (f : Nat → Bool) : allB (n + 1) f = (allB n f && f n) := by simp [allB, List.range_succ]
theorem allB_zero (f : Nat → Bool) : allB 0 f = true := rfl
theorem allB_iff {n : Nat} {f : Nat → Bool} : allB n f = true ↔ ∀ k, k < n → f k = true := by simp [allB]
theorem allB_no {n k : Nat} {f : Nat → Bool} (hk : k < n) (h : f k = false) : allB n f = false := by
  cases e : allB n f
  · rfl
  · have := allB_iff.1 e k hk
    rw [h] at this; cases this
theorem allB_congr {n : Nat} {f g : Nat → Bool} (h : ∀ k, k < n → f k = g k) : allB n f = allB n g := by
  induction n with
  | zero => rfl
  | succ n ih => rw [allB_succ, allB_succ, ih fun k hk => h k (by omega), h n (by omega)]
/-- The root of the table, and those of what it is folded to. -/
def rtQ (root : Int) (R : Nat → Int) (k : Nat) : Int := if k = 0 then root else R (k - 1)
/-- All holds. -/
def lookB (n : Nat) (root : Int) (g : Nat → Int) (m : Nat) (pl : Nat → Nat) (R : Nat → Int) (v : Int) (o : OQ) : Bool :=
  prQ v 0 == nrm (R (n - 1)) && allB m fun i => allB n fun k => fitB n (rtQ root R) g v (o.P i) (o.T i) (pl i) k

/-- The table, folded k times. -/
def fdQ (f g : Nat → Int) (n : Nat) : Nat → Nat → Int
  | 0, j => f j
  | k + 1, j => fldF (fdQ f g n k) (hfQ n k) (g k) j
theorem fdQ_nums (f g : Nat → Int) (n k : Nat) (hf : Nums f) : Nums (fdQ f g n k) := by
  cases k with
  | zero => exact hf
  | succ k => exact Nums_fld _ _ _
theorem fdQ_folded (f g : Nat → Int) (n : Nat) (hf : Nums f) (k : Nat) : k ≤ n → Folded f g n k (2 ^ (n - k)) (fdQ f g n k) := by
  induction k with
  | zero => intro _; exact Folded.start rfl hf
  | succ k ih =>
    intro hk
    have h := ih (by omega)
    rw [← hfQ_all (by omega)] at h
    have h2 := h.next (by omega) (rfl : g k = g k)
    have e : hfQ n k = 2 ^ (n - (k + 1)) := by unfold hfQ; congr 1; omega
    rw [e] at h2
    show Folded f g n (k + 1) (2 ^ (n - (k + 1))) (fldF (fdQ f g n k) (hfQ n k) (g k))
    rw [e]
    exact h2
/-- Its value at the point. -/
theorem fdQ_value (f g : Nat → Int) (n : Nat) (hf : Nums f) (hn : 1 ≤ n) : fdQ f g n n 0 = ofK (evS (fun j => kk (f j)) (fun j => kk (g j)) n) := by
  have h := (fdQ_folded f g n hf n (Nat.le_refl n)).done
  rw [← h]
  obtain ⟨m, rfl⟩ : ∃ m, n = m + 1 := ⟨n - 1, by omega⟩
  show fldF _ _ _ 0 = nrm (fldF _ _ _ 0)
  exact (nrm_in (addQ_rng _ _).1 (addQ_rng _ _).2).symm
/-- The right opening's roots, pairs and paths. -/
def oR (f g : Nat → Int) (n i : Nat) : Int := rootQ (n - 1 - i) (fdQ f g n (i + 1))
def oP (f g : Nat → Int) (n p k e : Nat) : Int := nrm (fdQ f g n k (p % hfQ n k + e * hfQ n k))
def oT (f g : Nat → Int) (n p k e j : Nat) : Int := pathQ (n - k) (fdQ f g n k) (p % hfQ n k + e * hfQ n k) j
def rightO (f g : Nat → Int) (n m : Nat) (pl : Nat → Nat) : OQ := ⟨m, fun _ => n, fun _ => n, fun i => oP f g n (pl i), fun _ k _ => n - k, fun i => oT f g n (pl i)⟩

theorem climbQ_nrm (n : Nat) (leaf : Int) (p : Nat → Int) : ∀ i, climbQ n i (nrm leaf) p = climbQ n i leaf p := by
  induction n with
  | zero => intro i; exact prQ_nrm_l _ _
  | succ n ih => intro i; rw [climbQ, climbQ, ih, ih]
theorem mod_half {n k p : Nat} (h : k + 1 < n) : p % hfQ n k = p % hfQ n (k + 1) + p % hfQ n k / hfQ n (k + 1) * hfQ n (k + 1) ∧ p % hfQ n k / hfQ n (k + 1) < 2 := by
  have e := hfQ_two h
  have hp := hfQ_pos n (k + 1)
  have hlt : p % hfQ n k < hfQ n k := Nat.mod_lt _ (hfQ_pos n k)
  generalize hfQ n (k + 1) = z at *
  generalize hfQ n k = y at *
  subst e
  refine ⟨?_, by rw [Nat.div_lt_iff_lt_mul hp]; exact hlt⟩
  have h1 := Nat.mod_add_div (p % (2 * z)) z
  rw [Nat.mod_mul_left_mod] at h1
  rw [Nat.mul_comm (p % (2 * z) / z) z]
  exact h1.symm
theorem oP_lt {n k p : Nat} (hk : k < n) (e : Nat) (he : e < 2) : p % hfQ n k + e * hfQ n k < 2 ^ (n - k) := by
  rw [← hfQ_all hk]
  have hlt : p % hfQ n k < hfQ n k := Nat.mod_lt _ (hfQ_pos n k)
  match e, he with
  | 0, _ => omega
  | 1, _ => omega
theorem btQ_right (f g : Nat → Int) (n p k : Nat) : btQ (oP f g n p k) (g k) = fdQ f g n (k + 1) (p % hfQ n k) := by
  show addQ (nrm (fdQ f g n k (p % hfQ n k + 0 * hfQ n k))) (mulQ (g k) (subQ (nrm (fdQ f g n k (p % hfQ n k + 1 * hfQ n k))) (nrm (fdQ f g n k (p % hfQ n k + 0 * hfQ n k))))) = addQ (fdQ f g n k (p % hfQ n k)) (mulQ (g k) (subQ (fdQ f g n k (hfQ n k + p % hfQ n k)) (fdQ f g n k (p % hfQ n k))))
  rw [Nat.zero_mul, Nat.add_zero, Nat.one_mul, Nat.add_comm (p % hfQ n k) (hfQ n k)]
  generalize fdQ f g n k (p % hfQ n k) = a
  generalize fdQ f g n k (hfQ n k + p % hfQ n k) = b
  have e1 : subQ (nrm b) (nrm a) = subQ b a := eq_ofK (subQ_rng _ _).1 (subQ_rng _ _).2 (by rw [kk_subQ, kk_nrm, kk_nrm]) |>.trans (eq_ofK (subQ_rng _ _).1 (subQ_rng _ _).2 (by rw [kk_subQ])).symm
  rw [e1]
  exact (eq_ofK (addQ_rng _ _).1 (addQ_rng _ _).2 (by rw [kk_addQ, kk_nrm])).trans (eq_ofK (addQ_rng _ _).1 (addQ_rng _ _).2 (by rw [kk_addQ])).symm
theorem fdQ_rng (f g : Nat → Int) (n k j : Nat) : 0 ≤ fdQ f g n (k + 1) j ∧ fdQ f g n (k + 1) j ≤ 2305843009213693950 := addQ_rng _ _
/-- What is opened holds. -/
theorem opn_fits (f g : Nat → Int) (n p k : Nat) (hk : k < n) : fitB n (rtQ (rootQ n f) (oR f g n)) g (fdQ f g n n 0) (oP f g n p) (oT f g n p) p k = true := by
  have hroot : ∀ e, e < 2 → climbQ (n - k) (p % hfQ n k + e * hfQ n k) (oP f g n p k e) (oT f g n p k e) = nrm (rtQ (rootQ n f) (oR f g n) k) := fun e he => by
    have h1 : oT f g n p k e = pathQ (n - k) (fdQ f g n k) (p % hfQ n k + e * hfQ n k) := rfl
    rw [oP, climbQ_nrm, h1, climb_path (n - k) (fdQ f g n k) _ (oP_lt hk e he)]
    by_cases h0 : k = 0
    · subst h0
      rw [rtQ, if_pos rfl, nrm_in (rootQ_rng _ _).1 (rootQ_rng _ _).2]
      rfl
    · rw [rtQ, if_neg h0, oR, show n - 1 - (k - 1) = n - k from by omega, show k - 1 + 1 = k from by omega, nrm_in (rootQ_rng _ _).1 (rootQ_rng _ _).2]
  have r0 := hroot 0 (by omega)
  have r1 := hroot 1 (by omega)
  rw [Nat.zero_mul, Nat.add_zero] at r0
  rw [Nat.one_mul] at r1
  unfold fitB
  rw [r0, r1, btQ_right]
  have hn : fdQ f g n (k + 1) (p % hfQ n k) = nrm (nxQ n (oP f g n p) (fdQ f g n n 0) p k) := by
    unfold nxQ
    by_cases hl : k + 1 = n
    · rw [if_pos hl]
      have : hfQ n k = 1 := by unfold hfQ; rw [show n - 1 - k = 0 from by omega]
      rw [this, Nat.mod_one]
      subst hl
      exact (nrm_in (fdQ_rng f g _ k 0).1 (fdQ_rng f g _ k 0).2).symm
    · rw [if_neg hl, oP, ← (mod_half (by omega)).1, nrm_in (nrm_rng _).1 (nrm_rng _).2, nrm_in (fdQ_rng f g _ k _).1 (fdQ_rng f g _ k _).2]
  rw [← hn]
  simp
theorem right_looks (f g : Nat → Int) (n m : Nat) (pl : Nat → Nat) (hn : 1 ≤ n) : lookB n (rootQ n f) g m pl (oR f g n) (fdQ f g n n 0) (rightO f g n m pl) = true := by
  unfold lookB
  have e : oR f g n (n - 1) = prQ (fdQ f g n n 0) 0 := by
    rw [oR, show n - 1 - (n - 1) = 0 from by omega, show n - 1 + 1 = n from by omega]; rfl
  rw [e, nrm_in (prQ_rng _ _).1 (prQ_rng _ _).2]
  have : (allB m fun i => allB n fun k => fitB n (rtQ (rootQ n f) (oR f g n)) g (fdQ f g n n 0) ((rightO f g n m pl).P i) ((rightO f g n m pl).T i) (pl i) k) = true := allB_iff.2 fun i _ => allB_iff.2 fun k hk => opn_fits f g n (pl i) k hk
  rw [this]
  simp
theorem rightO_form (f g : Nat → Int) (n m : Nat) (pl : Nat → Nat) : (rightO f g n m pl).form n := fun i _ => ⟨rfl, rfl, fun k _ => ⟨rfl, rfl⟩⟩
theorem rightO_nums (f g : Nat → Int) (n m : Nat) (pl : Nat → Nat) : (rightO f g n m pl).nums := fun i k e => by
  have h1 : 0 ≤ oP f g n (pl i) k e ∧ oP f g n (pl i) k e ≤ 2305843009213693950 := nrm_rng _
  refine ⟨h1.1, ?_, fun j => ?_⟩
  · have := h1.2
    show oP f g n (pl i) k e ≤ _
    omega
  · have := pathQ_rng (n - k) (fdQ f g n k) (pl i % hfQ n k + e * hfQ n k) j
    show 0 ≤ pathQ _ _ _ _ ∧ pathQ _ _ _ _ ≤ _
    omega

end Go.Proofs.YtmjpcmeinlkfbaaDoor

/-
  Package tree's leafRoot and Climb, for every input; they write nothing that was there.
-/
namespace Go.Proofs.YtmjpcmeinlkfbaaDoor
open Go.RowKit
set_option linter.unusedVariables false
attribute [local go_sem ↓] Go.wp_at_zero Go.wp_at_succ

theorem pow_c8 {n : Nat} (h : n ≤ 8) : 2 ^ n ≤ 256 := Nat.pow_le_pow_right (j := 8) (by omega) h
theorem shl_c8 {k : Nat} (hk : k ≤ 8) : wrap64 ((2 : Int) ^ k) = ((2 ^ k : Nat) : Int) := by
  have h : 2 ^ k ≤ 256 := pow_c8 hk
  rw [show ((2 : Int) ^ k) = ((2 ^ k : Nat) : Int) from by simp]
  generalize 2 ^ k = M at h
  exact IntWalk.wrap64_in _ (by omega)
theorem ret_u64_err {a b x : Int} (h : a = b) : Ending.returned (.tuple #[.int .u64 a, .int .i64 x]) = .returned (.tuple #[.int .u64 b, .int .i64 x]) := by rw [h]
theorem tpair (a b : Int) (W : World) (h0 : 0 ≤ a) (h1 : a ≤ 18446744073709551615) (g0 : 0 ≤ b) (g1 : b ≤ 18446744073709551615) : Calls Tryd.prog 29 #[.int .u64 a, .int .u64 b] W fun e w' => e = .returned (.int .u64 (prQ a b)) ∧ Below W.heap.size W w' := pair_any a b W h0 h1 g0 g1
set_option maxHeartbeats 1000000 in
theorem leafRoot_any (x : Int) (w : World) (h0 : 0 ≤ x) (h1 : x ≤ 18446744073709551615) :
    Calls Tryd.prog 58 #[.int .u64 x] w fun e w' => e = .returned (.int .u64 (prQ x 0)) ∧ Below w.heap.size w w' := by
  have HP := hid (tpair x 0 w h0 h1 (by omega) (by omega))
  go_enter Tryd.func58, Tryd.ntmps58
  go_wp2_with (go_at_call 29; refine (HP.out).mono ?_; rintro e w1 ⟨rfl, hb⟩; have HB := hid hb; clear hb)
  go_ret
  exact ⟨rfl, HB.out⟩

theorem low_and (m : Nat) (h : m ≤ 100000) : bits .and .i64 (m : Int) 1 = ((m % 2 : Nat) : Int) := by
  have h1 : (BitVec.ofInt 64 (m : Int)).toNat = m := by
    rw [BitVec.ofInt_natCast, BitVec.toNat_ofNat]; exact Nat.mod_eq_of_lt (by omega)
  have h2 : (BitVec.ofInt 64 (1 : Int)).toNat = 1 := rfl
  have e : m &&& 1 = m % 2 := Nat.and_two_pow_sub_one_eq_mod m 1
  show IntKind.i64.wrap ((BitVec.ofInt 64 (m : Int) &&& BitVec.ofInt 64 (1 : Int)).toNat : Int) = _
  rw [BitVec.toNat_and, h1, h2, e]
  exact IntWalk.i64_in _ (by omega)


set_option maxHeartbeats 4000000 in
set_option maxRecDepth 100000 in
theorem tclimb_ok (n cap i : Nat) (ao : Option Addr) (leaf : Int) (p : Nat → Int) (w : World) (hn : n ≤ 8) (hr : PRow w ao n p) (hv : Nums p) (hi : i < 2 ^ n) (l0 : 0 ≤ leaf) (l1 : leaf ≤ 18446744073709551615) :
    Calls Tryd.prog 26 #[.int .i64 (i : Int), .int .u64 leaf, .slice ao n cap] w fun e w' => e = .returned (.tuple #[.int .u64 (climbQ n i leaf p), .int .i64 0]) ∧ Below w.heap.size w w' := by
  have HL := hid (leafRoot_any leaf w l0 l1)
  have HUP := hid (climb_up leaf p n i hi)
  obtain ⟨N, hN⟩ : ∃ N, 2 ^ n = N := ⟨_, rfl⟩
  have HSH : Hid (wrap64 ((2 : Int) ^ n) = (N : Int)) := hid (by rw [← hN]; exact shl_c8 hn)
  have hN2 : N ≤ 256 := by rw [← hN]; exact pow_c8 hn
  rw [hN] at hi
  have i1 : (i : Int) < (N : Int) := by omega
  have i2 : (0 : Int) ≤ (i : Int) := by omega
  have i3 : ¬ (8 : Int) < (n : Int) := by omega
  have HP := hid hr
  have HV := hid hv
  clear hr hv hN
  have hsh := HSH.out
  go_enter Tryd.func26, Tryd.ntmps26
  go_wp2_with (go_at_call 58; refine (HL.out).mono ?_; rintro e w1 ⟨rfl, hb⟩; have HB1 := hid hb; clear hb)
  clear hsh HL
  go_loopg [29, 8] n (fun q x t wr => ∃ (k : Nat) (y : Int), k ≤ n ∧ q = n - k ∧ x = .int .i64 (k : Int) ∧ t = .int .u64 y ∧ 0 ≤ y ∧ y ≤ 18446744073709551615 ∧ Hid (y = upC i leaf p k) ∧ Hid (Below w.heap.size w wr))
  case atStart => exact ⟨0, _, by omega, rfl, rfl, rfl, (prQ_rng _ _).1, by have := (prQ_rng leaf 0).2; omega, hid rfl, HB1⟩
  case round =>
    clear HB1
    obtain ⟨k, y, hk, rfl, rfl, rfl, y0, y1, HY, HB⟩ := hrel
    by_cases hlt : k < n
    · obtain ⟨bp, op, rfl, hrp⟩ := HP.out (by omega)
      have c1 := (hrp.kept HB.out (hrp.lt (by omega))) k hlt
      have bx := HV.out k
      obtain ⟨x, hx⟩ : ∃ x, p k = x := ⟨_, rfl⟩
      rw [hx] at c1 bx
      obtain ⟨x0, x1⟩ := bx
      obtain ⟨m, hm⟩ : ∃ m : Nat, i / 2 ^ k = m := ⟨_, rfl⟩
      have hmk : m ≤ 100000 := by rw [← hm]; exact Nat.le_trans (Nat.div_le_self _ _) (by omega)
      have hmi : (i : Int) / 2 ^ k = (m : Int) := by rw [← hm]; simp
      have hba := low_and m hmk
      have k0 : (0 : Int) ≤ (k : Int) := by omega
      have k1 : (k : Int) < (n : Int) := by omega
      clear hrp
      by_cases hbit : m % 2 = 0
      · rw [hbit] at hba
        have hbt : (bits .and .i64 (m : Int) 1 == 0) = true := by rw [hba]; rfl
        have HU : Hid (prQ y x = upC i leaf p (k + 1)) := hid (by rw [upC, hm, if_pos hbit, HY.out, hx])
        have HPA := hid (tpair y x wr y0 y1 x0 x1)
        clear hba hbit hm hx
        go_wp2_with (go_at_call 29; refine (HPA.out).mono ?_; rintro e w2 ⟨rfl, hb⟩; have HB2 := hid hb; clear hb)
        go_roundg (n - (k + 1))
        case measure => go_light; omega
        case rel => exact ⟨k + 1, _, by omega, rfl, by go_num, rfl, (prQ_rng _ _).1, by have := (prQ_rng y x).2; omega, HU, hid (HB.out.trans (HB2.out.mono HB.out.size))⟩
      · have hbit1 : m % 2 = 1 := by omega
        rw [hbit1] at hba
        have hbt : (bits .and .i64 (m : Int) 1 == 0) = false := by rw [hba]; rfl
        have HU : Hid (prQ x y = upC i leaf p (k + 1)) := hid (by rw [upC, hm, if_neg hbit, HY.out, hx])
        have HPA := hid (tpair x y wr x0 x1 y0 y1)
        clear hba hbit hbit1 hm hx
        go_wp2_with (go_at_call 29; refine (HPA.out).mono ?_; rintro e w2 ⟨rfl, hb⟩; have HB2 := hid hb; clear hb)
        go_roundg (n - (k + 1))
        case measure => go_light; omega
        case rel => exact ⟨k + 1, _, by omega, rfl, by go_num, rfl, (prQ_rng _ _).1, by have := (prQ_rng x y).2; omega, HU, hid (HB.out.trans (HB2.out.mono HB.out.size))⟩
    · have e : k = n := by omega
      subst e
      go_wp2_with fail
      go_ret2
      exact ⟨ret_u64_err (HY.out.trans HUP.out.symm), HB.out⟩

set_option maxHeartbeats 1000000 in
set_option maxRecDepth 100000 in
theorem tclimb_arg (n cap : Nat) (i : Int) (ao : Option Addr) (leaf : Int) (w : World) (hm : n ≤ maxLen) (h : 8 < n ∨ i < 0 ∨ (n ≤ 8 ∧ ((2 ^ n : Nat) : Int) ≤ i)) :
    Calls Tryd.prog 26 #[.int .i64 i, .int .u64 leaf, .slice ao n cap] w fun e w' => e = .returned (.tuple #[.int .u64 0, .int .i64 1]) ∧ Below w.heap.size w w' := by
  by_cases h8 : 8 < n
  · have i3 : (8 : Int) < (n : Int) := by omega
    clear h
    go_enter Tryd.func26, Tryd.ntmps26
    go_wp2_with fail
    go_ret2
    exact ⟨rfl, Below.refl _ _⟩
  · have i3 : ¬ (8 : Int) < (n : Int) := by omega
    by_cases hneg : i < 0
    · clear h
      go_enter Tryd.func26, Tryd.ntmps26
      go_wp2_with fail
      go_ret2
      exact ⟨rfl, Below.refl _ _⟩
    · have h2 : ((2 ^ n : Nat) : Int) ≤ i := by omega
      obtain ⟨N, hN⟩ : ∃ N, 2 ^ n = N := ⟨_, rfl⟩
      have HSH : Hid (wrap64 ((2 : Int) ^ n) = (N : Int)) := hid (by rw [← hN]; exact shl_c8 (by omega))
      rw [hN] at h2
      have h3 : ¬ i < (N : Int) := by omega
      clear h hN
      have hsh := HSH.out
      go_enter Tryd.func26, Tryd.ntmps26
      go_wp2_with fail
      go_ret2
      exact ⟨rfl, Below.refl _ _⟩


end Go.Proofs.YtmjpcmeinlkfbaaDoor

/-
  Contracts of package open's halfOf, between, leadsTo, arePlaces and hasForm, for every input; they write nothing that was there.
-/
namespace Go.Proofs.YtmjpcmeinlkfbaaDoor
open Go.RowKit
set_option linter.unusedVariables false
attribute [local go_sem ↓] Go.wp_at_zero Go.wp_at_succ

/-- A box of three cells. -/
structure Bx3 (w : World) (B : Nat) (p q r : Value) : Prop where
  c0 : w.cell? ⟨B, 0, none⟩ = some p
  c1 : w.cell? ⟨B, 1, none⟩ = some q
  c2 : w.cell? ⟨B, 2, none⟩ = some r
theorem Bx3.new (w : World) (p q r : Value) (t : TypeId) : Bx3 (w.alloc (.cells #[p, q, r] t)) w.heap.size p q r :=
  ⟨by rw [World.cell?_alloc_new]; rfl, by rw [World.cell?_alloc_new]; rfl, by rw [World.cell?_alloc_new]; rfl⟩
theorem Bx3.kept {w w' : World} {B : Nat} {p q r : Value} (h : Bx3 w B p q r) (hb : Below w.heap.size w w') : Bx3 w' B p q r := by
  have hl : B < w.heap.size := World.block_lt_of_cell? w _ h.c0
  exact ⟨(hb.cell hl).trans h.c0, (hb.cell hl).trans h.c1, (hb.cell hl).trans h.c2⟩
/-- A box of two cells. -/
structure Bx2 (w : World) (B : Nat) (p q : Value) : Prop where
  c0 : w.cell? ⟨B, 0, none⟩ = some p
  c1 : w.cell? ⟨B, 1, none⟩ = some q
theorem Bx2.new (w : World) (p q : Value) (t : TypeId) : Bx2 (w.alloc (.cells #[p, q] t)) w.heap.size p q :=
  ⟨by rw [World.cell?_alloc_new]; rfl, by rw [World.cell?_alloc_new]; rfl⟩
theorem Bx2.kept {w w' : World} {B : Nat} {p q : Value} (h : Bx2 w B p q) (hb : Below w.heap.size w w') : Bx2 w' B p q := by
  have hl : B < w.heap.size := World.block_lt_of_cell? w _ h.c0
  exact ⟨(hb.cell hl).trans h.c0, (hb.cell hl).trans h.c1⟩
theorem Below.drewN' {w w' : World} {B : Nat} (h : Below B w w') (n : Nat) : Below B w (w'.drewN n) := ⟨h.os, h.tape, h.output, h.size, h.block⟩
theorem bel_new (w : World) (x : Obj) : Below w.heap.size w (w.alloc x) := (Below.refl _ w).alloc (Nat.le_refl _) _


/-- They may be: at most 32 places, each of a pair. -/
def plOk (m n : Nat) (p : Nat → Int) : Prop := m ≤ 32 ∧ ∀ j, j < m → 0 ≤ p j ∧ p j < ((hfQ n 0 : Nat) : Int)

end Go.Proofs.YtmjpcmeinlkfbaaDoor
