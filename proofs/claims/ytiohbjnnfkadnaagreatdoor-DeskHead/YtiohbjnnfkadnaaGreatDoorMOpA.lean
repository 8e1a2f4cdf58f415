/-
  Several texts in one: Tree, TreeCl, OwnV, TreeR; each opens with what it holds.
-/
import Derived.Test.YtiohbjnnfkadnaaGreatDoorMFiat
import Derived.Test.YtiohbjnnfkadnaaGreatDoorOwn
import Derived.Deep.RegionWith
import Derived.Deep.RegionHeld3
import Derived.Test.YtiohbjnnfkadnaaGreatDoorOwnL
import Derived.Test.YtiohbjnnfkadnaaGreatDoorMle
/-
  Plain: trees of pairs: the root of a table, the path of a place, what one comes to by a path; from the root down, and level by level; no program in it.
-/
namespace Go.Proofs.YtiohbjnnfkadnaaGreatDoor
open Go.RowKit
set_option linter.unusedVariables false

/-- What Pair answers. -/
def prQ (a b : Int) : Int := ofK (pairK a b)
theorem prQ_rng (a b : Int) : 0 ≤ prQ a b ∧ prQ a b ≤ 2305843009213693950 := ofK_rng _
theorem prQ_nrm_l (a b : Int) : prQ (nrm a) b = prQ a b := by unfold prQ; rw [pairK_congr (kk_nrm a) rfl]
theorem prQ_nrm_r (a b : Int) : prQ a (nrm b) = prQ a b := by unfold prQ; rw [pairK_congr rfl (kk_nrm b)]
/-- The root of 2^n numbers. -/
def rootQ : Nat → (Nat → Int) → Int
  | 0, f => prQ (f 0) 0
  | n + 1, f => prQ (rootQ n f) (rootQ n fun j => f (2 ^ n + j))
theorem rootQ_rng (n : Nat) (f : Nat → Int) : 0 ≤ rootQ n f ∧ rootQ n f ≤ 2305843009213693950 := by
  cases n with
  | zero => exact prQ_rng _ _
  | succ n => exact prQ_rng _ _
theorem rootQ_congr (n : Nat) : ∀ {f g : Nat → Int}, (∀ j, j < 2 ^ n → f j = g j) → rootQ n f = rootQ n g := by
  induction n with
  | zero => intro f g h; rw [rootQ, rootQ, h 0 (by omega)]
  | succ n ih =>
    intro f g h
    rw [rootQ, rootQ, ih fun j hj => h j (by rw [two_pow_succ]; omega), ih fun j hj => h (2 ^ n + j) (by rw [two_pow_succ]; omega)]
theorem half_one {i z : Nat} (h : ¬ i < z) (hi : i < z + z) : i / z = 1 := Nat.div_eq_of_lt_le (by omega) (by omega)
/-- Number j of the path of place i, from the lowest on. -/
def pathQ : Nat → (Nat → Int) → Nat → Nat → Int
  | 0, _, _, _ => 0
  | n + 1, f, i, j => if i < 2 ^ n then (if j < n then pathQ n f i j else rootQ n fun j => f (2 ^ n + j)) else (if j < n then pathQ n (fun j => f (2 ^ n + j)) (i - 2 ^ n) j else rootQ n f)
theorem pathQ_rng (n : Nat) : ∀ (f : Nat → Int) (i j : Nat), 0 ≤ pathQ n f i j ∧ pathQ n f i j ≤ 2305843009213693950 := by
  induction n with
  | zero => intro f i j; rw [pathQ]; omega
  | succ n ih =>
    intro f i j
    rw [pathQ]
    split
    · split
      · exact ih _ _ _
      · exact rootQ_rng _ _
    · split
      · exact ih _ _ _
      · exact rootQ_rng _ _
/-- What one comes to from a leaf at place i by n numbers of a path. -/
def climbQ : Nat → Nat → Int → (Nat → Int) → Int
  | 0, _, leaf, _ => prQ leaf 0
  | n + 1, i, leaf, p => if i < 2 ^ n then prQ (climbQ n i leaf p) (p n) else prQ (p n) (climbQ n (i - 2 ^ n) leaf p)
theorem climbQ_rng (n i : Nat) (leaf : Int) (p : Nat → Int) : 0 ≤ climbQ n i leaf p ∧ climbQ n i leaf p ≤ 2305843009213693950 := by
  cases n with
  | zero => exact prQ_rng _ _
  | succ n => rw [climbQ]; split <;> exact prQ_rng _ _
theorem climbQ_congr (n : Nat) (leaf : Int) {p q : Nat → Int} : ∀ i, (∀ j, j < n → p j = q j) → climbQ n i leaf p = climbQ n i leaf q := by
  induction n with
  | zero => exact fun _ _ => rfl
  | succ n ih =>
    intro i h
    rw [climbQ, climbQ, ih i fun j hj => h j (by omega), ih (i - 2 ^ n) fun j hj => h j (by omega), h n (by omega)]
/-- MERKLE: by its path one comes from each place to the root. -/
theorem climb_path (n : Nat) : ∀ (f : Nat → Int) (i : Nat), i < 2 ^ n → climbQ n i (f i) (pathQ n f i) = rootQ n f := by
  induction n with
  | zero => intro f i hi; have : i = 0 := by omega
            subst this; rfl
  | succ n ih =>
    intro f i hi
    rw [two_pow_succ] at hi
    rw [climbQ, rootQ]
    by_cases h : i < 2 ^ n
    · rw [if_pos h, climbQ_congr n (f i) i (q := pathQ n f i) fun j hj => by rw [pathQ, if_pos h, if_pos hj], ih f i h]
      rw [pathQ, if_pos h, if_neg (Nat.lt_irrefl n)]
    · rw [if_neg h]
      rw [climbQ_congr n (f i) (i - 2 ^ n) (q := pathQ n (fun j => f (2 ^ n + j)) (i - 2 ^ n)) fun j hj => by rw [pathQ, if_neg h, if_pos hj]]
      have := ih (fun j => f (2 ^ n + j)) (i - 2 ^ n) (by omega)
      rw [show 2 ^ n + (i - 2 ^ n) = i from by omega] at this
      rw [this, pathQ, if_neg h, if_neg (Nat.lt_irrefl n)]

/-- Level k of the tree, from the lowest on. -/
def levQ (f : Nat → Int) : Nat → Nat → Int
  | 0, j => prQ (f j) 0
  | k + 1, j => prQ (levQ f k (2 * j)) (levQ f k (2 * j + 1))
theorem levQ_rng (f : Nat → Int) (k j : Nat) : 0 ≤ levQ f k j ∧ levQ f k j ≤ 2305843009213693950 := by
  cases k with
  | zero => exact prQ_rng _ _
  | succ k => exact prQ_rng _ _
theorem lev_root (f : Nat → Int) (k : Nat) : ∀ j, levQ f k j = rootQ k fun i => f (2 ^ k * j + i) := by
  induction k with
  | zero => intro j; rw [levQ, rootQ]; simp
  | succ k ih =>
    intro j
    rw [levQ, rootQ, ih, ih]
    congr 1
    · refine rootQ_congr k fun i _ => ?_
      rw [Nat.pow_succ, Nat.mul_assoc]
    · refine rootQ_congr k fun i _ => ?_
      rw [Nat.pow_succ, Nat.mul_assoc, Nat.mul_add, Nat.mul_one, Nat.add_assoc]
theorem lev_top (f : Nat → Int) (n : Nat) : levQ f n 0 = rootQ n f := by
  rw [lev_root]
  exact rootQ_congr n fun i _ => by rw [Nat.mul_zero, Nat.zero_add]
theorem levQ_shift (f : Nat → Int) (n k : Nat) (hk : k ≤ n) : ∀ j, levQ (fun i => f (2 ^ n + i)) k j = levQ f k (2 ^ (n - k) + j) := by
  induction k with
  | zero => intro j; rfl
  | succ k ih =>
    intro j
    rw [levQ, levQ, ih (by omega), ih (by omega)]
    have e : 2 ^ (n - k) = 2 * 2 ^ (n - (k + 1)) := by rw [show n - k = (n - (k + 1)) + 1 from by omega, two_pow_succ]; omega
    rw [e, Nat.mul_add, Nat.add_assoc]
/-- The place beside. -/
def sib (m : Nat) : Nat := if m % 2 = 0 then m + 1 else m - 1
theorem path_lev (n : Nat) : ∀ (f : Nat → Int) (i j : Nat), i < 2 ^ n → j < n → pathQ n f i j = levQ f j (sib (i / 2 ^ j)) := by
  induction n with
  | zero => intro f i j _ hj; omega
  | succ n ih =>
    intro f i j hi hj
    rw [two_pow_succ] at hi
    have hpos : 0 < 2 ^ n := Nat.two_pow_pos n
    rw [pathQ]
    by_cases h : i < 2 ^ n
    · rw [if_pos h]
      by_cases hjn : j < n
      · rw [if_pos hjn]; exact ih f i j h hjn
      · have e : j = n := by omega
        subst e
        rw [if_neg hjn, Nat.div_eq_of_lt h, sib, if_pos rfl, lev_root]
        exact rootQ_congr j fun t _ => by rw [Nat.mul_one]
    · rw [if_neg h]
      have hd : i / 2 ^ n = 1 := half_one h hi
      by_cases hjn : j < n
      · rw [if_pos hjn, ih _ (i - 2 ^ n) j (by omega) hjn, levQ_shift f n j (by omega)]
        congr 1
        have e1 : 2 ^ n = 2 ^ j * 2 ^ (n - j) := by rw [← Nat.pow_add]; congr 1; omega
        have e2 : i / 2 ^ j = (i - 2 ^ n) / 2 ^ j + 2 ^ (n - j) := by
          have : i = (i - 2 ^ n) + 2 ^ j * 2 ^ (n - j) := by rw [← e1]; omega
          rw [this, Nat.add_mul_div_left _ _ (Nat.two_pow_pos j), ← e1]
          congr 2
          omega
        have e3 : 2 ^ (n - j) = 2 * 2 ^ (n - j - 1) := by rw [show n - j = (n - j - 1) + 1 from by omega, two_pow_succ]; simp; omega
        rw [e2]
        generalize (i - 2 ^ n) / 2 ^ j = m
        generalize 2 ^ (n - j - 1) = z at e3
        rw [e3]
        unfold sib
        by_cases hm : m % 2 = 0
        · rw [if_pos hm, if_pos (by omega)]; omega
        · rw [if_neg hm, if_neg (by omega)]; omega
      · have e : j = n := by omega
        subst e
        rw [if_neg hjn, hd, sib, if_neg (by omega), lev_root]
        exact rootQ_congr j fun t _ => by rw [Nat.sub_self, Nat.mul_zero, Nat.zero_add]
/-- Up from a leaf, step by step, by the bits of its place. -/
def upC (i : Nat) (leaf : Int) (p : Nat → Int) : Nat → Int
  | 0 => prQ leaf 0
  | k + 1 => if i / 2 ^ k % 2 = 0 then prQ (upC i leaf p k) (p k) else prQ (p k) (upC i leaf p k)
theorem upC_rng (i : Nat) (leaf : Int) (p : Nat → Int) (k : Nat) : 0 ≤ upC i leaf p k ∧ upC i leaf p k ≤ 2305843009213693950 := by
  cases k with
  | zero => exact prQ_rng _ _
  | succ k => rw [upC]; split <;> exact prQ_rng _ _
theorem upC_low (leaf : Int) (p : Nat → Int) (n i : Nat) (h : 2 ^ n ≤ i) (k : Nat) : k ≤ n → upC (i - 2 ^ n) leaf p k = upC i leaf p k := by
  induction k with
  | zero => exact fun _ => rfl
  | succ k ih =>
    intro hk
    rw [upC, upC, ih (by omega)]
    have e1 : 2 ^ n = 2 ^ k * 2 ^ (n - k) := by rw [← Nat.pow_add]; congr 1; omega
    have e2 : i / 2 ^ k = (i - 2 ^ n) / 2 ^ k + 2 ^ (n - k) := by
      have : i = (i - 2 ^ n) + 2 ^ k * 2 ^ (n - k) := by rw [← e1]; omega
      rw [this, Nat.add_mul_div_left _ _ (Nat.two_pow_pos k), ← e1]
      congr 2
      omega
    have e3 : 2 ^ (n - k) = 2 * 2 ^ (n - k - 1) := by rw [show n - k = (n - k - 1) + 1 from by omega, two_pow_succ]; simp; omega
    rw [e2, e3, Nat.add_mul_mod_self_left]
theorem climb_up (leaf : Int) (p : Nat → Int) (n : Nat) : ∀ i, i < 2 ^ n → climbQ n i leaf p = upC i leaf p n := by
  induction n with
  | zero => exact fun _ _ => rfl
  | succ n ih =>
    intro i hi
    rw [two_pow_succ] at hi
    rw [climbQ, upC]
    by_cases h : i < 2 ^ n
    · rw [if_pos h, Nat.div_eq_of_lt h, if_pos rfl, ih i h]
    · have hd : i / 2 ^ n = 1 := half_one h hi
      rw [if_neg h, hd, if_neg (by omega), ih (i - 2 ^ n) (by omega), upC_low leaf p n i (by omega) n (Nat.le_refl n)]

end Go.Proofs.YtiohbjnnfkadnaaGreatDoor

/-
  Package tree's leafRoot and Climb, for every input; they write nothing that was there.
-/
namespace Go.Proofs.YtiohbjnnfkadnaaGreatDoor
open Go.RowKit
set_option linter.unusedVariables false
attribute [local go_sem ↓] Go.wp_at_zero Go.wp_at_succ

theorem pow_c8 {n : Nat} (h : n ≤ 8) : 2 ^ n ≤ 256 := Nat.pow_le_pow_right (j := 8) (by omega) h
theorem shl_c8 {k : Nat} (hk : k ≤ 8) : wrap64 ((2 : Int) ^ k) = ((2 ^ k : Nat) : Int) := by
  have h : 2 ^ k ≤ 256 := pow_c8 hk
  rw [show ((2 : Int) ^ k) = ((2 ^ k : Nat) : Int) from by simp]
  generalize 2 ^ k = M at h
  exact IntWalk.wrap64_in _ (by omega)
theorem ret_u64_err {a b x : Int} (h : a = b) : Ending.returned (.tuple #[.int .u64 a, .int .i64 x]) = .returned (.tuple #[.int .u64 b, .int .i64 x]) := by rw [h]
theorem tpair (a b : Int) (W : World) (h0 : 0 ≤ a) (h1 : a ≤ 18446744073709551615) (g0 : 0 ≤ b) (g1 : b ≤ 18446744073709551615) : Calls Tryz.prog 147 #[.int .u64 a, .int .u64 b] W fun e w' => e = .returned (.int .u64 (prQ a b)) ∧ Below W.heap.size W w' := pair_any a b W h0 h1 g0 g1
set_option maxHeartbeats 1000000 in
theorem leafRoot_any (x : Int) (w : World) (h0 : 0 ≤ x) (h1 : x ≤ 18446744073709551615) :
    Calls Tryz.prog 103 #[.int .u64 x] w fun e w' => e = .returned (.int .u64 (prQ x 0)) ∧ Below w.heap.size w w' := by
  have HP := hid (tpair x 0 w h0 h1 (by omega) (by omega))
  go_enter Tryz.func103, Tryz.ntmps103
  go_wp2_with (go_at_call 147; refine (HP.out).mono ?_; rintro e w1 ⟨rfl, hb⟩; have HB := hid hb; clear hb)
  go_ret
  exact ⟨rfl, HB.out⟩

theorem low_and (m : Nat) (h : m ≤ 100000) : bits .and .i64 (m : Int) 1 = ((m % 2 : Nat) : Int) := by
  have h1 : (BitVec.ofInt 64 (m : Int)).toNat = m := by
    rw [BitVec.ofInt_natCast, BitVec.toNat_ofNat]; exact Nat.mod_eq_of_lt (by omega)
  have h2 : (BitVec.ofInt 64 (1 : Int)).toNat = 1 := rfl
  have e : m &&& 1 = m % 2 := Nat.and_two_pow_sub_one_eq_mod m 1
  show IntKind.i64.wrap ((BitVec.ofInt 64 (m : Int) &&& BitVec.ofInt 64 (1 : Int)).toNat : Int) = _
  rw [BitVec.toNat_and, h1, h2, e]
  exact IntWalk.i64_in _ (by omega)


end Go.Proofs.YtiohbjnnfkadnaaGreatDoor

/-
  Lists of lists of whatever lengths that a call itself makes and appends to: what append leaves, what stays; lists of whole numbers (places) in memory.
-/
namespace Go.Proofs.YtiohbjnnfkadnaaGreatDoor
open Go.RowKit
set_option linter.unusedVariables false

/-- Lists as the cells of a row. -/
def slv (n : Nat) (A : Nat → Option Addr) (L C : Nat → Nat) : List Value := (List.range n).map fun i => Value.slice (A i) (L i) (C i)
theorem slv_len (n : Nat) (A : Nat → Option Addr) (L C : Nat → Nat) : (slv n A L C).length = n := by simp [slv]
theorem slv_at (n : Nat) (A : Nat → Option Addr) (L C : Nat → Nat) (i : Nat) (h : i < n) : (slv n A L C)[i]? = some (.slice (A i) (L i) (C i)) := by simp [slv, h]
theorem slv_past (n : Nat) (A : Nat → Option Addr) (L C : Nat → Nat) (i : Nat) (h : n ≤ i) : (slv n A L C)[i]? = none := by simp [slv, h]
def putO (a : Nat → Option Addr) (k : Nat) (b : Option Addr) (i : Nat) : Option Addr := if i = k then b else a i
theorem slv_snoc (n : Nat) (A : Nat → Option Addr) (L C : Nat → Nat) (b : Option Addr) (l d : Nat) : slv n A L C ++ [.slice b l d] = slv (n + 1) (putO A n b) (putA L n l) (putA C n d) := by
  apply List.ext_getElem?
  intro j
  by_cases h : j < n
  · rw [List.getElem?_append_left (by rw [slv_len]; exact h), slv_at n A L C j h, slv_at _ _ _ _ j (by omega), putO, putA, putA, if_neg (by omega), if_neg (by omega), if_neg (by omega)]
  · rw [List.getElem?_append_right (by rw [slv_len]; omega), slv_len]
    by_cases h2 : j = n
    · subst h2
      rw [slv_at _ _ _ _ j (by omega), putO, putA, putA, if_pos rfl, if_pos rfl, if_pos rfl]
      simp
    · rw [slv_past _ _ _ _ j (by omega), List.getElem?_eq_none (by simp; omega)]
/-- v is a list of the call's own: n lists, list i of L i numbers F i, none of them in v's own block. -/
structure OwnV (w : World) (base : Nat) (v : Value) (n : Nat) (A : Nat → Option Addr) (L C : Nat → Nat) (F : Nat → Nat → Int) : Prop where
  own : w.ownsRow base 55 1 v n (slv n A L C)
  apart : ∀ i, i < n → ∀ a, A i = some a → v.ownBlock ≠ some a.block
  lt : ∀ i, i < n → ∀ a, A i = some a → a.block < w.heap.size
  row : ∀ i, i < n → PRow w (A i) (L i) (F i)
theorem OwnV.nil (w : World) (base : Nat) (A : Nat → Option Addr) (L C : Nat → Nat) (F : Nat → Nat → Int) : OwnV w base (.slice none 0 0) 0 A L C F :=
  ⟨World.ownsRow_nil w base 55 1, fun i hi => absurd hi (by omega), fun i hi => absurd hi (by omega), fun i hi => absurd hi (by omega)⟩
/-- A list that is laid with one list in it. -/
theorem OwnV.one (w : World) (base : Nat) (a : Option Addr) (l c : Nat) (f : Nat → Int) (hb : base ≤ w.heap.size) (hl : ∀ x, a = some x → x.block < w.heap.size) (hr : PRow w a l f) :
    OwnV (w.alloc (.cells #[.slice a l c] 55)) base (.slice (some ⟨w.heap.size, 0, none⟩) 1 1) 1 (fun _ => a) (fun _ => l) (fun _ => c) (fun _ => f) :=
  ⟨World.ownsRow_lit w #[.slice a l c] 1 hb (by unfold maxLen; omega) rfl, fun i hi x hx e => by have h1 := hl x hx; have h2 : w.heap.size = x.block := Option.some.inj e; omega, fun i hi x hx => by have := hl x hx; simp; omega, fun i hi => hr.kept ((Below.refl _ w).alloc (Nat.le_refl _) _)⟩
theorem OwnV.drew {w : World} {base : Nat} {v : Value} {n : Nat} {A : Nat → Option Addr} {L C : Nat → Nat} {F : Nat → Nat → Int} (h : OwnV w base v n A L C F) : OwnV w.drew base v n A L C F := ⟨h.own, h.apart, h.lt, h.row⟩
theorem OwnV.kept {w w' : World} {base : Nat} {v : Value} {n : Nat} {A : Nat → Option Addr} {L C : Nat → Nat} {F : Nat → Nat → Int} (h : OwnV w base v n A L C F) (hb : Below w.heap.size w w') : OwnV w' base v n A L C F := by
  refine ⟨?_, h.apart, fun i hi a e => Nat.lt_of_lt_of_le (h.lt i hi a e) hb.size, fun i hi => (h.row i hi).kept hb⟩
  refine ⟨h.own.1, ?_⟩
  rcases h.own.2 with h2 | ⟨g, cap, cur, hv, hg, hh, r⟩
  · exact .inl h2
  · have hlt : g < w.heap.size := (Array.getElem?_eq_some_iff.1 hh).1
    exact .inr ⟨g, cap, cur, hv, hg, (hb.block g hlt).trans hh, r⟩
theorem OwnV.far {w : World} {base : Nat} {v : Value} {n b : Nat} {A : Nat → Option Addr} {L C : Nat → Nat} {F : Nat → Nat → Int} (h : OwnV w base v n A L C F) (hb : w.heap.size ≤ b) : v.ownBlock ≠ some b := fun e => by have := (h.own.lt b e).2; omega
theorem OwnV.is {w : World} {base : Nat} {v : Value} {n : Nat} {A : Nat → Option Addr} {L C : Nat → Nat} {F : Nat → Nat → Int} (h : OwnV w base v n A L C F) : ∃ ao cap, v = .slice ao n cap ∧ n ≤ cap ∧ LRow w ao n A L C F := by
  have ho := h.own
  rcases ho.2 with ⟨rfl, rfl⟩ | ⟨g, cap, cur, rfl, _, _, hle, _⟩
  · exact ⟨none, 0, rfl, Nat.le_refl _, fun h0 => by omega⟩
  · refine ⟨some ⟨g, 0, none⟩, cap, rfl, hle, fun _ => ⟨g, 0, rfl, fun i hi => ⟨?_, h.row i hi⟩⟩⟩
    rw [Nat.zero_add, ho.cellAt i (by omega), slv_at n A L C i hi]
/-- One list more: what append left. -/
theorem OwnV.next {w w' : World} {base : Nat} {v : Value} {n : Nat} {A : Nat → Option Addr} {L C : Nat → Nat} {F : Nat → Nat → Int} {g cap l d : Nat} {ao : Option Addr} {f : Nat → Int} (h : OwnV w base v n A L C F)
    (ho : w'.ownsRow base 55 1 (.slice (some ⟨g, 0, none⟩) (n + 1) cap) (n + 1) (slv n A L C ++ [.slice ao l d])) (hg : w.grownBy w' v.ownBlock) (hat : v.ownBlock = some g ∨ g = w.heap.size)
    (hb : ∀ a, ao = some a → a.block < w.heap.size) (hne : ∀ a, ao = some a → v.ownBlock ≠ some a.block) (hr : PRow w ao l f) : OwnV w' base (.slice (some ⟨g, 0, none⟩) (n + 1) cap) (n + 1) (putO A n ao) (putA L n l) (putA C n d) (putF F n f) := by
  have far : ∀ k, k < w.heap.size → v.ownBlock ≠ some k → some g ≠ some k := fun k hk hk2 e => by
    rcases hat with e1 | e1
    · exact hk2 (e1.trans e)
    · have := Option.some.inj e; omega
  have krow : ∀ (ao : Option Addr) (l : Nat) (f : Nat → Int), (∀ a, ao = some a → a.block < w.heap.size) → (∀ a, ao = some a → v.ownBlock ≠ some a.block) → PRow w ao l f → PRow w' ao l f := fun ao l f hk hk2 hr h0 => by
    obtain ⟨b, off, e, hr2⟩ := hr h0
    exact ⟨b, off, e, fun j hj => (World.cell?_of_block (hg.block b (hk _ e) (fun e2 => hk2 _ e e2.symm))).trans (hr2 j hj)⟩
  refine ⟨by rw [← slv_snoc]; exact ho, fun i hi a ha => ?_, fun i hi a ha => ?_, fun i hi => ?_⟩
  · show some g ≠ _
    by_cases e : i = n
    · rw [putO, if_pos e] at ha; exact far _ (hb a ha) (hne a ha)
    · rw [putO, if_neg e] at ha; exact far _ (h.lt i (by omega) a ha) (h.apart i (by omega) a ha)
  · by_cases e : i = n
    · rw [putO, if_pos e] at ha; exact Nat.lt_of_lt_of_le (hb a ha) hg.size
    · rw [putO, if_neg e] at ha; exact Nat.lt_of_lt_of_le (h.lt i (by omega) a ha) hg.size
  · by_cases e : i = n
    · rw [putO, if_pos e, putA, if_pos e, putF, if_pos e]; exact krow ao l f hb hne hr
    · rw [putO, if_neg e, putA, if_neg e, putF, if_neg e]; exact krow _ _ _ (h.lt i (by omega)) (h.apart i (by omega)) (h.row i (by omega))
theorem OwnV.congr {w : World} {base : Nat} {v : Value} {n : Nat} {A A' : Nat → Option Addr} {L L' C C' : Nat → Nat} {F F' : Nat → Nat → Int} (h : OwnV w base v n A L C F) (eA : ∀ i, i < n → A i = A' i) (eL : ∀ i, i < n → L i = L' i) (eC : ∀ i, i < n → C i = C' i) (eF : ∀ i j, i < n → j < L i → F i j = F' i j) : OwnV w base v n A' L' C' F' := by
  have e : slv n A L C = slv n A' L' C' := by
    unfold slv
    exact List.map_congr_left fun j hj => by have hj := List.mem_range.1 hj; rw [eA j hj, eL j hj, eC j hj]
  refine ⟨e ▸ h.own, fun i hi a ha => h.apart i hi a ((eA i hi).trans ha), fun i hi a ha => h.lt i hi a ((eA i hi).trans ha), fun i hi => ?_⟩
  rw [← eA i hi, ← eL i hi]
  exact (h.row i hi).congr fun j hj => eF i j hi hj

/-- n whole numbers of 64 bits lie there, if any. -/
def IRowP (w : World) (ao : Option Addr) (n : Nat) (p : Nat → Int) : Prop := 0 < n → ∃ b off, ao = some ⟨b, off, none⟩ ∧ ∀ j, j < n → w.cell? ⟨b, off + j, none⟩ = some (.int .i64 (p j))
theorem IRowP.kept {w w' : World} {ao : Option Addr} {n : Nat} {p : Nat → Int} (h : IRowP w ao n p) (hb : Below w.heap.size w w') : IRowP w' ao n p := fun hn => by
  obtain ⟨b, off, e, hr⟩ := h hn
  exact ⟨b, off, e, fun j hj => (hb.cell (World.block_lt_of_cell? w _ (hr j hj))).trans (hr j hj)⟩
theorem IRowP.drew {w : World} {ao : Option Addr} {n : Nat} {p : Nat → Int} (h : IRowP w ao n p) : IRowP w.drew ao n p := h
theorem IRowP.congr {w : World} {ao : Option Addr} {n : Nat} {p q : Nat → Int} (h : IRowP w ao n p) (e : ∀ j, j < n → p j = q j) : IRowP w ao n q := fun hn => by
  obtain ⟨b, off, e1, hr⟩ := h hn
  exact ⟨b, off, e1, fun j hj => by rw [← e j hj]; exact hr j hj⟩
theorem IRowP.one (w : World) (x : Int) (t : TypeId) : IRowP (w.alloc (.cells #[.int .i64 x] t)) (some ⟨w.heap.size, 0, none⟩) 1 (fun _ => x) := fun _ => ⟨_, _, rfl, fun j hj => by
  rw [Nat.zero_add, World.cell?_alloc_new]
  match j, hj with
  | 0, _ => rfl⟩
/-- Lists of like length made and stored: one list more, whatever its length. -/
theorem Lays.more {w w' w1 : World} {n k N b : Nat} {a : Nat → Nat} {F : Nat → Nat → Int} {f : Nat → Int} (h : Lays w w' n k N a F) (hk : k < n) (hb1 : b < w1.heap.size) (hb : Below w'.heap.size w' w1) (hB : w'.heap.size ≤ b) (hr : Row w1 b 0 N f) (hf : Free w1 b 0 N) :
    Lays w (w1.setCell ⟨w.heap.size, k, none⟩ (.slice (some ⟨b, 0, none⟩) N N)) n (k + 1) N (putA a k b) (putF F k f) := by
  have h1 := h.kept hb
  have hlt := h.lt
  have hW : Wrote w.heap.size k 1 w1 (w1.setCell ⟨w.heap.size, k, none⟩ (.slice (some ⟨b, 0, none⟩) N N)) := (Wrote.refl _ _ _ _).store (Nat.le_refl _) (by omega) _
  refine ⟨h1.below.setCell (Nat.le_refl _) _, by rw [World.size_setCell]; exact h1.lt, fun i hi => ?_, fun i h2 hi => ?_, fun i hi => by rw [World.frozen?_setCell]; exact h1.free i hi, fun i hi => ?_, fun i j hij hj => ?_, fun i hi => ?_, fun i hi => ?_⟩
  · by_cases e : i = k
    · subst e
      rw [World.cell?_setCell_same _ _ _ (h1.todo i (Nat.le_refl _) hk), putA, if_pos rfl]
    · rw [hW.cell i (by omega), h1.cell i (by omega), putA, if_neg e]
  · rw [hW.cell i (by omega), h1.todo i (by omega) hi]
  · rw [World.size_setCell]
    by_cases e : i = k
    · rw [putA, if_pos e]; omega
    · rw [putA, if_neg e]; exact h1.high i (by omega)
  · rw [putA, if_neg (by omega)]
    by_cases e : j = k
    · rw [putA, if_pos e]
      have := (h.high i (by omega)).2
      omega
    · rw [putA, if_neg e]; exact h.apart i j hij (by omega)
  · by_cases e : i = k
    · rw [putA, if_pos e, putF, if_pos e]; exact hr.other hW (by omega)
    · rw [putA, if_neg e, putF, if_neg e]; exact (h1.row i (by omega)).other hW (by have := (h1.high i (by omega)).1; omega)
  · have hfr : ∀ c, Free w1 c 0 N → Free (w1.setCell ⟨w.heap.size, k, none⟩ (.slice (some ⟨b, 0, none⟩) N N)) c 0 N := fun c hc j hj => by rw [World.frozen?_setCell]; exact hc j hj
    by_cases e : i = k
    · rw [putA, if_pos e]; exact hfr _ hf
    · rw [putA, if_neg e]; exact hfr _ (h1.may i (by omega))

end Go.Proofs.YtiohbjnnfkadnaaGreatDoor

/-
  Package tree's rows, Paths and Root, each for every input; they write nothing that was there.
-/
namespace Go.Proofs.YtiohbjnnfkadnaaGreatDoor
open Go.RowKit
set_option linter.unusedVariables false
attribute [local go_sem ↓] Go.wp_at_zero Go.wp_at_succ

/-- The place beside is told by the lowest bit. -/
theorem xor_all : ((List.range 256).all fun m => bits .xor .i64 (m : Int) 1 == ((sib m : Nat) : Int)) = true := by kernel_rfl
theorem xor_sib (m : Nat) (h : m < 256) : bits .xor .i64 (m : Int) 1 = ((sib m : Nat) : Int) := by
  have := List.all_eq_true.1 xor_all m (List.mem_range.2 h)
  simpa using this
theorem sib_lt {m z : Nat} (h : m < 2 * z) : sib m < 2 * z := by unfold sib; split <;> omega
theorem Made.held {w w' w'' : World} {n : Nat} {f : Nat → Int} (h : Made w w' n f) (hn : 0 < n) (hb : Below w'.heap.size w' w'') : Made w w'' n f :=
  ⟨h.below.trans (hb.mono h.below.size), h.row.kept hb (h.row.lt hn), h.free.kept hb (h.row.lt hn)⟩
theorem path_next (n : Nat) (f : Nat → Int) (i k j : Nat) (y : Int) (hy : pathQ n f i k = y) : (if j = k then y else if j < k then pathQ n f i j else 0) = if j < k + 1 then pathQ n f i j else 0 := by
  by_cases e : j = k
  · subst e
    rw [if_pos rfl, if_pos (by omega), hy]
  · rw [if_neg e]
    by_cases h2 : j < k
    · rw [if_pos h2, if_pos (by omega)]
    · rw [if_neg h2, if_neg (by omega)]

theorem lev_step (F : Nat → Int) (k j : Nat) (y : Int) (hy : y = F k) : (if j = k then y else if j < k then F j else 0) = if j < k + 1 then F j else 0 := by
  by_cases e : j = k
  · subst e
    rw [if_pos rfl, if_pos (by omega), hy]
  · rw [if_neg e]
    by_cases h2 : j < k
    · rw [if_pos h2, if_pos (by omega)]
    · rw [if_neg h2, if_neg (by omega)]

set_option maxHeartbeats 4000000 in
set_option maxRecDepth 100000 in
/-- One row of the tree, out of the row below. -/
theorem paired_ok (b off h cap : Nat) (f : Nat → Int) (w : World) (h1 : 1 ≤ h) (hh : h ≤ 256) (hr : Row w b off (2 * h) f) (hv : Nums f) :
    Calls Tryz.prog 104 #[.slice (some ⟨b, off, none⟩) (2 * h) cap] w fun e w' => e = .returned (.slice (some ⟨w.heap.size, 0, none⟩) h h) ∧ Made w w' h (fun j => prQ (f (2 * j)) (f (2 * j + 1))) := by
  have HR := hid hr
  have HV := hid hv
  clear hr hv
  have hmk := run_make_row' (P := Tryz.prog) 55 60 (.int .u64 0) 8 Tryz.underlying55 Tryz.infoM rfl .i64 .i64 h (by omega) (by omega)
  go_enter Tryz.func104, Tryz.ntmps104
  go_wp2_with fail
  clear hmk
  go_loopg [11] h (fun q x wr => ∃ k : Nat, k ≤ h ∧ q = h - k ∧ x = .int .i64 (k : Int) ∧ Hid (Made w wr h (fun j => if j < k then prQ (f (2 * j)) (f (2 * j + 1)) else 0)))
  case atStart => exact ⟨0, by omega, rfl, rfl, hid ((Made.start w h 60).congr fun j _ => by rw [if_neg (by omega)])⟩
  case round =>
    obtain ⟨k, hk, rfl, rfl, HM⟩ := hrel
    by_cases hlt : k < h
    · have c1 := HM.out.old HR.out (2 * k) (by omega)
      have c2 := HM.out.old HR.out (2 * k + 1) (by omega)
      have c3 := HM.out.cell k hlt
      have f3 := HM.out.frozen k hlt
      rw [if_neg (by omega)] at c3
      have hBlt : w.heap.size < wr.heap.size := HM.out.row.lt (by omega)
      obtain ⟨x, hx⟩ : ∃ x, f (2 * k) = x := ⟨_, rfl⟩
      obtain ⟨y, hy⟩ : ∃ y, f (2 * k + 1) = y := ⟨_, rfl⟩
      have bx := HV.out (2 * k)
      have by1 := HV.out (2 * k + 1)
      rw [hx] at c1 bx
      rw [hy] at c2 by1
      obtain ⟨x0, x1⟩ := bx
      obtain ⟨y0, y1⟩ := by1
      have HXY : Hid (prQ x y = prQ (f (2 * k)) (f (2 * k + 1))) := hid (by rw [hx, hy])
      clear hx hy
      have HP := hid (fun W => tpair x y W x0 x1 y0 y1)
      have k0 : (0 : Int) ≤ (k : Int) := by omega
      have k1 : (k : Int) < (h : Int) := by omega
      have k2 : (0 : Int) ≤ 2 * (k : Int) := by omega
      have k3 : 2 * (k : Int) < ((2 * h : Nat) : Int) := by omega
      have k4 : (0 : Int) ≤ 2 * (k : Int) + 1 := by omega
      have k5 : 2 * (k : Int) + 1 < ((2 * h : Nat) : Int) := by omega
      have k6 : 2 * (k : Int) < 2 * (h : Int) := by omega
      have k7 : 2 * (k : Int) + 1 < 2 * (h : Int) := by omega
      have k8 : (2 * (k : Int)).toNat = 2 * k := by omega
      have k9 : (2 * (k : Int) + 1).toNat = 2 * k + 1 := by omega
      have wr1 : IntKind.i64.wrap (2 * (k : Int)) = 2 * (k : Int) := IntWalk.i64_in _ (by omega)
      have wr2 : IntKind.i64.wrap (2 * (k : Int) + 1) = 2 * (k : Int) + 1 := IntWalk.i64_in _ (by omega)
      have hne : b ≠ w.heap.size := by have := HR.out.lt (by omega); omega
      have HZS : Hid (∀ W : World, W.cell? ⟨b, off + 2 * k, none⟩ = some (.int .u64 x) ∧ W.cell? ⟨b, off + (2 * k + 1), none⟩ = some (.int .u64 y) → ∀ v, (W.setCell ⟨w.heap.size, k, none⟩ v).cell? ⟨b, off + 2 * k, none⟩ = some (.int .u64 x) ∧ (W.setCell ⟨w.heap.size, k, none⟩ v).cell? ⟨b, off + (2 * k + 1), none⟩ = some (.int .u64 y)) := hid (fun W h v => ⟨by rw [World.cell?_setCell_other _ _ _ _ (by intro e; simp only [Addr.mk.injEq] at e; omega)]; exact h.1, by rw [World.cell?_setCell_other _ _ _ _ (by intro e; simp only [Addr.mk.injEq] at e; omega)]; exact h.2⟩)
      have HK : Hid (∀ W W' : World, Below W.heap.size W W' → (W.cell? ⟨b, off + 2 * k, none⟩ = some (.int .u64 x) ∧ W.cell? ⟨b, off + (2 * k + 1), none⟩ = some (.int .u64 y)) → W'.cell? ⟨b, off + 2 * k, none⟩ = some (.int .u64 x) ∧ W'.cell? ⟨b, off + (2 * k + 1), none⟩ = some (.int .u64 y)) := hid (fun W W' hb h => ⟨(hb.cell (World.block_lt_of_cell? W _ h.1)).trans h.1, (hb.cell (World.block_lt_of_cell? W _ h.2)).trans h.2⟩)
      clear hne
      go_wp2_with fail
      go_region_held3 (fun W => W.cell? ⟨b, off + 2 * k, none⟩ = some (.int .u64 x) ∧ W.cell? ⟨b, off + (2 * k + 1), none⟩ = some (.int .u64 y)) (first | assumption | exact ⟨c1, c2⟩ | exact HZ1.out | exact HZS.out _ HZ1.out _) (first | (go_at_call 147; refine (HP.out _).mono ?_; rintro e w1 ⟨rfl, hb⟩; have hb2 : Below wr.heap.size wr w1 := (by first | exact hb | exact (Below.refl _ wr).drew.trans hb); clear hb; have c4 := (hb2.cell (p := ⟨w.heap.size, k, none⟩) hBlt).trans c3; have f4 := (hb2.frozen (p := ⟨w.heap.size, k, none⟩) hBlt).trans f3; have HZ1 := hid (HK.out wr w1 hb2 ⟨c1, c2⟩); have HB := hid hb2; clear hb2))
      all_goals (go_wp2_with fail)
      all_goals (go_roundg (h - (k + 1)))
      all_goals first | (go_light; omega) | skip
      all_goals
        have hst := ((HM.out.held (by omega) HB.out).store k (prQ x y) hlt).congr fun j _ => lev_step (fun j => prQ (f (2 * j)) (f (2 * j + 1))) k j _ HXY.out
        exact ⟨k + 1, by omega, rfl, by go_num, (by first | exact hid hst | exact hid hst.drew)⟩
    · have e : k = h := by omega
      subst e
      go_wp2_with fail
      go_ret
      exact ⟨rfl, HM.out.congr fun j hj => by rw [if_pos hj]⟩

theorem half_of2 {n k M : Nat} (hk : k < n) (h : M = 2 ^ (n - k)) : ∃ H, M = 2 * H ∧ 1 ≤ H := ⟨2 ^ (n - 1 - k), by rw [h, show n - k = (n - 1 - k) + 1 from by omega, Nat.pow_succ]; omega, Nat.one_le_two_pow⟩
/-- The tree over a table, row by row. -/
structure Rws (w : World) (ao : Option Addr) (n : Nat) (A : Nat → Option Addr) (C : Nat → Nat) (f : Nat → Int) : Prop where
  row : LRow w ao (n + 1) A (fun k => 2 ^ (n - k)) C (levQ f)
theorem Rws.kept {w w' : World} {ao : Option Addr} {n : Nat} {A : Nat → Option Addr} {C : Nat → Nat} {f : Nat → Int} (h : Rws w ao n A C f) (hb : Below w.heap.size w w') : Rws w' ao n A C f := ⟨h.row.kept hb⟩
theorem Rws.at {w : World} {ao : Option Addr} {n : Nat} {A : Nat → Option Addr} {C : Nat → Nat} {f : Nat → Int} (h : Rws w ao n A C f) : ∃ b off, ao = some ⟨b, off, none⟩ ∧ ∀ k, k ≤ n → ∃ b2 o2, w.cell? ⟨b, off + k, none⟩ = some (.slice (some ⟨b2, o2, none⟩) (2 ^ (n - k)) (C k)) ∧ Row w b2 o2 (2 ^ (n - k)) (levQ f k) := by
  obtain ⟨b, off, e, hr⟩ := h.row (by omega)
  refine ⟨b, off, e, fun k hk => ?_⟩
  obtain ⟨h1, h2⟩ := hr k (by omega)
  obtain ⟨b2, o2, e2, h3⟩ := h2 (Nat.two_pow_pos _)
  rw [e2] at h1
  exact ⟨b2, o2, h1, h3⟩
set_option maxHeartbeats 8000000 in
set_option maxRecDepth 100000 in
theorem rows_ok (n N b off cap : Nat) (f : Nat → Int) (w : World) (hn : n ≤ 8) (hN : N = 2 ^ n) (hr : Row w b off N f) (hv : Nums f) :
    Calls Tryz.prog 68 #[.slice (some ⟨b, off, none⟩) N cap] w fun e w' => ∃ ao c A C, e = .returned (.slice ao (n + 1) c) ∧ n + 1 ≤ c ∧ Rws w' ao n A C f ∧ Below w.heap.size w w' := by
  have hN1 : 1 ≤ N := by rw [hN]; exact Nat.one_le_two_pow
  have hN2 : N ≤ 256 := by rw [hN]; exact pow_256 hn
  obtain ⟨i1, hi1, hy0, hy1, hy2⟩ := info_parts Tryz.infoL
  have HJ := hid (And.intro hi1 (And.intro hy0 (And.intro hy1 hy2)))
  have HR := hid hr
  have HV := hid hv
  have HN := hid hN
  clear hr hv hN hi1 hy0 hy1 hy2
  have hmk := run_make_row' (P := Tryz.prog) 55 60 (.int .u64 0) 8 Tryz.underlying55 Tryz.infoM rfl .i64 .i64 N (by omega) (by omega)
  go_enter Tryz.func68, Tryz.ntmps68
  go_wp2_with fail
  clear hmk
  go_loopg [12] N (fun q x wr => ∃ k : Nat, k ≤ N ∧ q = N - k ∧ x = .int .i64 (k : Int) ∧ Hid (Made w wr N (fun j => if j < k then levQ f 0 j else 0)))
  case atStart => exact ⟨0, by omega, rfl, rfl, hid ((Made.start w N 60).congr fun j _ => by rw [if_neg (by omega)])⟩
  case round =>
    obtain ⟨k, hk, rfl, rfl, HM⟩ := hrel
    by_cases hlt : k < N
    · have c1 := HM.out.old HR.out k hlt
      have c3 := HM.out.cell k hlt
      have f3 := HM.out.frozen k hlt
      rw [if_neg (by omega)] at c3
      have hBlt : w.heap.size < wr.heap.size := HM.out.row.lt (by omega)
      obtain ⟨x, hx⟩ : ∃ x, f k = x := ⟨_, rfl⟩
      have bx := HV.out k
      rw [hx] at c1 bx
      obtain ⟨x0, x1⟩ := bx
      have HXY : Hid (prQ x 0 = levQ f 0 k) := hid (by rw [← hx]; rfl)
      clear hx
      have HP := hid (leafRoot_any x wr x0 x1)
      have k0 : (0 : Int) ≤ (k : Int) := by omega
      have k1 : (k : Int) < (N : Int) := by omega
      go_wp2_with (go_at_call 103; refine (HP.out).mono ?_; rintro e w1 ⟨rfl, hb⟩; have c4 := (hb.cell (p := ⟨w.heap.size, k, none⟩) hBlt).trans c3; have f4 := (hb.frozen (p := ⟨w.heap.size, k, none⟩) hBlt).trans f3; have HB := hid hb; clear hb)
      go_roundg (N - (k + 1))
      case measure => go_light; omega
      case rel => exact ⟨k + 1, by omega, rfl, by go_num, hid (((HM.out.held (by omega) HB.out).store k _ hlt).congr fun j _ => lev_step _ k j _ HXY.out)⟩
    · have e : k = N := by omega
      subst e
      have hBlt : w.heap.size < wr.heap.size := HM.out.row.lt (by omega)
      have HO : Hid (OwnV (wr.alloc (.cells #[.slice (some ⟨w.heap.size, 0, none⟩) k k] 55)) w.heap.size (.slice (some ⟨wr.heap.size, 0, none⟩) 1 1) 1 (fun _ => some ⟨w.heap.size, 0, none⟩) (fun t => 2 ^ (n - t)) (fun _ => k) (levQ f)) := hid ((OwnV.one wr w.heap.size (some ⟨w.heap.size, 0, none⟩) k k (levQ f 0) (by omega) (fun x hx => by injection hx with hx; subst hx; exact hBlt) (PRow.of (HM.out.row.congr fun j hj => by rw [if_pos hj]))).congr (fun _ _ => rfl) (fun i hi => by rw [show i = 0 from by omega, HN.out, Nat.sub_zero]) (fun _ _ => rfl) (fun i j hi _ => by rw [show i = 0 from by omega]))
      have HB := hid (HM.out.below.alloc (by omega) (.cells #[.slice (some ⟨w.heap.size, 0, none⟩) k k] 55))
      have HR0 : Hid (Row (wr.alloc (.cells #[.slice (some ⟨w.heap.size, 0, none⟩) k k] 55)) w.heap.size 0 k (levQ f 0)) := hid ((HM.out.row.congr fun j hj => by rw [if_pos hj]).kept ((Below.refl wr.heap.size wr).alloc (Nat.le_refl _) _) hBlt)
      clear hBlt HM HR
      go_wp2_with fail
      generalize wr.alloc (.cells #[.slice (some ⟨w.heap.size, 0, none⟩) k k] 55) = W0 at HO HB HR0 ⊢
      go_loopg [3, 6] n (fun q r a ws => ∃ (t g c v v2 m : Nat) (A : Nat → Option Addr) (C : Nat → Nat), t ≤ n ∧ q = n - t ∧ r = .slice (some ⟨g, 0, none⟩) m m ∧ a = .slice (some ⟨v, 0, none⟩) (t + 1) c ∧ 1 ≤ m ∧ m ≤ 256 ∧ Hid (m = 2 ^ (n - t)) ∧ Hid (Row ws g 0 m (levQ f t)) ∧ Hid (OwnV ws w.heap.size (.slice (some ⟨v, 0, none⟩) (t + 1) c) (t + 1) A (fun t => 2 ^ (n - t)) C (levQ f)) ∧ Hid (Below w.heap.size w ws))
      case atStart => exact ⟨0, _, _, _, 0, k, _, _, by omega, rfl, rfl, rfl, hN1, hN2, hid HN.out, HR0, HO, HB⟩
      case round =>
        clear HO HB HR0
        obtain ⟨t, g, c, v, v2, m, A, C, ht, rfl, rfl, rfl, hm1, hm2, HM2, HRt, HO, HB⟩ := hrel
        by_cases hlt : t < n
        · obtain ⟨h, rfl, hh1⟩ := half_of2 hlt HM2.out
          have HH : Hid (h = 2 ^ (n - (t + 1))) := hid (by have := HM2.out; rw [show n - t = (n - (t + 1)) + 1 from by omega, Nat.pow_succ] at this; omega)
          have HPD := hid (paired_ok g 0 h (2 * h) (levQ f t) wr hh1 (by omega) HRt.out (fun j => by have := levQ_rng f t j; omega))
          have g1 : (1 : Int) < ((2 * h : Nat) : Int) := by omega
          have g2 : (1 : Int) < 2 * (h : Int) := by omega
          go_wp2_with (first
            | (go_at_call 104; refine (HPD.out).mono ?_; rintro e w1 ⟨rfl, hm⟩; have HO1 := hid (HO.out.kept hm.below); have HB1 := hid (HB.out.trans (hm.below.mono HB.out.size)); have HMD := hid hm; clear hm)
            | (at_builtin; refine wpList_append_lies _ rfl _ _ 65 rfl w.heap.size 55 i1 (.slice none 0 0) 1 24 Tryz.underlying65 HJ.out.1 HJ.out.2.1 HJ.out.2.2.1 HJ.out.2.2.2 rfl (by decide) _ _ _ rfl (World.ownsRow.alloc HO1.out.own _) ⟨w1.heap.size, 0, none⟩ 1 1 [.slice (some ⟨wr.heap.size, 0, none⟩) h h] rfl rfl ?qc2 ?qc3 ?qc4 ?qc5 ?qc6 ?qc7 (w1.heap.size + 1) ?qc8 ?_))
          case qc2 =>
            intro j u hj
            match j, hj with
            | 0, hj => simp at hj; subst hj; simp [Addr.add]
          case qc3 => intro u hu; simp at hu; subst hu; rfl
          case qc4 => omega
          case qc5 => unfold maxLen; omega
          case qc6 => omega
          case qc7 => have := HB1.out.size; simp; omega
          case qc8 => simp
          intro g2 c2 w6 hown2 hgrow2 hat2 hlt3
          have hbn := (Below.refl w1.heap.size w1).alloc (Nat.le_refl _) (.cells #[.slice (some ⟨wr.heap.size, 0, none⟩) h h] 55)
          have hwlt : wr.heap.size < w1.heap.size := HMD.out.row.lt hh1
          have hrow := HMD.out.row.kept hbn hwlt
          have hfar : ∀ a, some (⟨wr.heap.size, 0, none⟩ : Addr) = some a → (Value.slice (some ⟨v, 0, none⟩) (t + 1) c).ownBlock ≠ some a.block := fun a ha => by injection ha with ha; subst ha; exact HO.out.far (Nat.le_refl _)
          have hnext := (HO1.out.kept hbn).next hown2 hgrow2 (by simpa using hat2) (fun a ha => by injection ha with ha; subst ha; simp; omega) hfar (PRow.of hrow)
          have hg2 : wr.heap.size ≠ g2 := fun e => by have h1 := hnext.apart (t + 1) (by omega) ⟨wr.heap.size, 0, none⟩ (by rw [putO, if_pos rfl]); exact h1 (by rw [e]; rfl)
          have HR6 : Hid (Row w6 wr.heap.size 0 h (levQ f (t + 1))) := hid (fun j hj => (World.cell?_of_block (hgrow2.block wr.heap.size (by simp; omega) (fun e => HO.out.far (Nat.le_refl _) e.symm))).trans (hrow j hj))
          have HO6 : Hid (OwnV w6 w.heap.size (.slice (some ⟨g2, 0, none⟩) (t + 1 + 1) c2) (t + 1 + 1) (putO A (t + 1) (some ⟨wr.heap.size, 0, none⟩)) (fun t => 2 ^ (n - t)) (putA C (t + 1) h) (levQ f)) := hid (hnext.congr (fun _ _ => rfl) (fun i hi => by unfold putA; by_cases e : i = t + 1 <;> simp [e, HH.out]) (fun _ _ => rfl) (fun i j _ _ => by unfold putF; by_cases e : i = t + 1 <;> simp [e, levQ]))
          have HB6 : Hid (Below w.heap.size w w6) := hid ((HB1.out.alloc HB1.out.size _).grown hgrow2 (by have := HB1.out.size; simp; omega) (by intro t ht; exact (World.ownsRow.lt HO1.out.own t ht).1))
          clear hown2 hgrow2 hat2 hlt3 hbn hrow hfar hnext hg2
          go_wp2_with fail
          go_roundg (n - (t + 1))
          case measure => go_light; omega
          case rel => exact ⟨t + 1, _, _, _, 0, h, _, _, by omega, rfl, rfl, rfl, hh1, by omega, HH, HR6, HO6, HB6⟩
        · have e : t = n := by omega
          subst e
          have hm : m = 1 := by have := HM2.out; rw [Nat.sub_self, Nat.pow_zero] at this; exact this
          subst hm
          go_wp2_with fail
          go_ret
          obtain ⟨ao, cc, e, hc, hl⟩ := HO.out.is
          exact ⟨ao, cc, A, C, by rw [e]; rfl, hc, ⟨hl⟩, HB.out⟩

theorem lev_in {n k i : Nat} (hk : k < n) (hi : i < 2 ^ n) : sib (i / 2 ^ k) < 2 ^ (n - k) ∧ i / 2 ^ k < 256 ∨ 8 < n := by
  by_cases h8 : 8 < n
  · exact .inr h8
  · left
    have e : 2 ^ n = 2 ^ k * 2 ^ (n - k) := by rw [← Nat.pow_add]; congr 1; omega
    have h1 : i / 2 ^ k < 2 ^ (n - k) := by
      rw [Nat.div_lt_iff_lt_mul (Nat.two_pow_pos k), Nat.mul_comm, ← e]; exact hi
    have h2 : 2 ^ (n - k) = 2 * 2 ^ (n - k - 1) := by rw [show n - k = (n - k - 1) + 1 from by omega, two_pow_succ]; simp; omega
    have h3 : 2 ^ (n - k) ≤ 2 ^ 8 := Nat.pow_le_pow_right (by omega) (by omega)
    rw [h2] at h1 ⊢
    exact ⟨sib_lt h1, by omega⟩



set_option maxHeartbeats 4000000 in
theorem troot_any (n N b off cap : Nat) (f : Nat → Int) (w : World) (hn : n ≤ 8) (hN : N = 2 ^ n) (ht : Tab w) (hr : Row w b off N f) (hv : Nums f) :
    Calls Tryz.prog 36 #[.slice (some ⟨b, off, none⟩) N cap] w fun e w' => e = .returned (.tuple #[.int .u64 (rootQ n f), .int .i64 0]) ∧ Below w.heap.size w w' := by
  have HV := hid (vars_ok (some ⟨b, off, none⟩) n N cap w hn hN ht)
  have HR := hid (rows_ok n N b off cap f w hn hN hr hv)
  clear hN hr hv ht
  have k0 : (0 : Int) ≤ (n : Int) := by omega
  have k1 : (n : Int) < ((n + 1 : Nat) : Int) := by omega
  have k2 : (n : Int) < (n : Int) + 1 := by omega
  go_enter Tryz.func36, Tryz.ntmps36
  go_wp2_with (go_at_call 67; refine (HV.out).mono ?_; rintro e w' ⟨rfl, hw⟩; obtain rfl := hw.symm)
  refine (HR.out).mono ?_
  rintro e w1 ⟨ao, c, A, C, rfl, hc1, hrw, hb⟩
  obtain ⟨ba, oa, rfl, hat⟩ := hrw.at
  obtain ⟨b2, o2, hc2, hr2⟩ := hat n (Nat.le_refl n)
  rw [Nat.sub_self, Nat.pow_zero] at hc2 hr2
  have c2 := hr2 0 (by omega)
  rw [Nat.add_zero] at c2
  have HE := hid (lev_top f n)
  have HB := hid hb
  clear hrw hb hat hr2
  go_wp2_with fail
  go_ret2
  exact ⟨ret_u64_err HE.out, HB.out⟩
theorem troot_ok (n N b off cap : Nat) (f : Nat → Int) (w : World) (hn : n ≤ 8) (hN : N = 2 ^ n) (hc : N ≤ cap) (ht : Tab w) (hr : Row w b off N f) (hv : Nums f) :
    Calls Tryz.prog 36 #[.slice (some ⟨b, off, none⟩) N cap] w fun e w' => e = .returned (.tuple #[.int .u64 (rootQ n f), .int .i64 0]) ∧ Below w.heap.size w w' := troot_any n N b off cap f w hn hN ht hr hv
set_option maxHeartbeats 1000000 in
theorem troot_form (ao : Option Addr) (N cap : Nat) (w : World) (h : ∀ n, n ≤ 8 → N ≠ 2 ^ n) (hmax : N ≤ maxLen) :
    Calls Tryz.prog 36 #[.slice ao N cap] w fun e w' => e = .returned (.tuple #[.int .u64 0, .int .i64 4]) ∧ Below w.heap.size w w' := by
  have HV := hid (vars_bad ao N cap w h hmax)
  clear h
  go_enter Tryz.func36, Tryz.ntmps36
  go_wp2_with (go_at_call 67; refine (HV.out).mono ?_; rintro e w' ⟨rfl, hw⟩; obtain rfl := hw.symm)
  go_ret2
  exact ⟨rfl, Below.refl _ _⟩
end Go.Proofs.YtiohbjnnfkadnaaGreatDoor
