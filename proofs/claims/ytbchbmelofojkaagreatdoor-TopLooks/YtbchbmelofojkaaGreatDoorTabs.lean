/-
  Lists of tables in memory, those that came in and those that a call makes: what lies there, what stays, what a store into the outer list leaves; no program in it.
-/
import Derived.Test.YtbchbmelofojkaaGreatDoorLists
namespace Go.Proofs.YtbchbmelofojkaaGreatDoor
open Go.RowKit
set_option linter.unusedVariables false

/-- m lists of N numbers each: list i lies in block bv i from ov i on, the lists themselves in block B from o on. -/
structure Tabs (w : World) (B o m : Nat) (bv ov cv : Nat → Nat) (N : Nat) (F : Nat → Nat → Int) : Prop where
  cell : ∀ i, i < m → w.cell? ⟨B, o + i, none⟩ = some (.slice (some ⟨bv i, ov i, none⟩) N (cv i))
  row : ∀ i, i < m → Row w (bv i) (ov i) N (F i)
theorem Tabs.lt {w : World} {B o m : Nat} {bv ov cv : Nat → Nat} {N : Nat} {F : Nat → Nat → Int} (h : Tabs w B o m bv ov cv N F) (hm : 0 < m) : B < w.heap.size := World.block_lt_of_cell? w _ (h.cell 0 hm)
theorem Tabs.kept {w w' : World} {B o m : Nat} {bv ov cv : Nat → Nat} {N : Nat} {F : Nat → Nat → Int} (h : Tabs w B o m bv ov cv N F) (hb : Below w.heap.size w w') (hN : 0 < N) : Tabs w' B o m bv ov cv N F :=
  ⟨fun i hi => (hb.cell (p := ⟨B, o + i, none⟩) (World.block_lt_of_cell? w _ (h.cell i hi))).trans (h.cell i hi), fun i hi => (h.row i hi).kept hb ((h.row i hi).lt hN)⟩
theorem Tabs.wrote {w w' : World} {B o m : Nat} {bv ov cv : Nat → Nat} {N b o' n' : Nat} {F : Nat → Nat → Int} (h : Tabs w B o m bv ov cv N F) (g : Wrote b o' n' w w') (h1 : B ≠ b) (h2 : ∀ i, i < m → bv i ≠ b) : Tabs w' B o m bv ov cv N F :=
  ⟨fun i hi => (World.cell?_of_block (w := w) (g.block B h1)).trans (h.cell i hi), fun i hi => (h.row i hi).other g (h2 i hi)⟩
theorem Tabs.drew {w : World} {B o m : Nat} {bv ov cv : Nat → Nat} {N : Nat} {F : Nat → Nat → Int} (h : Tabs w B o m bv ov cv N F) : Tabs w.drew B o m bv ov cv N F := ⟨h.cell, h.row⟩
theorem Tabs.lists {w : World} {B o m : Nat} {bv ov cv : Nat → Nat} {N : Nat} {F : Nat → Nat → Int} (h : Tabs w B o m bv ov cv N F) : LRow w (some ⟨B, o, none⟩) m (fun i => some ⟨bv i, ov i, none⟩) (fun _ => N) cv F :=
  fun _ => ⟨B, o, rfl, fun i hi => ⟨h.cell i hi, PRow.of (h.row i hi)⟩⟩
theorem Tabs.congr {w : World} {B o m : Nat} {bv ov cv : Nat → Nat} {N : Nat} {F G : Nat → Nat → Int} (h : Tabs w B o m bv ov cv N F) (e : ∀ i j, i < m → j < N → F i j = G i j) : Tabs w B o m bv ov cv N G :=
  ⟨h.cell, fun i hi => (h.row i hi).congr fun j hj => e i j hi hj⟩
def blkOf (a : Option Addr) : Nat := match a with | some a => a.1 | none => 0
def offOf (a : Option Addr) : Nat := match a with | some a => a.2 | none => 0
theorem LRow.tabs {w : World} {ao : Option Addr} {m : Nat} {A : Nat → Option Addr} {L C : Nat → Nat} {F : Nat → Nat → Int} (h : LRow w ao m A L C F) {N : Nat} (hm : 0 < m) (hN : 0 < N) (hL : ∀ i, i < m → L i = N) :
    ∃ B o, ao = some ⟨B, o, none⟩ ∧ Tabs w B o m (fun i => blkOf (A i)) (fun i => offOf (A i)) C N F := by
  obtain ⟨b, off, e, hr⟩ := h hm
  refine ⟨b, off, e, fun i hi => ?_, fun i hi => ?_⟩
  · obtain ⟨hc, hp⟩ := hr i hi
    obtain ⟨b2, o2, eA, hr2⟩ := hp (by rw [hL i hi]; exact hN)
    rw [hc, eA, hL i hi]; rfl
  · obtain ⟨hc, hp⟩ := hr i hi
    obtain ⟨b2, o2, eA, hr2⟩ := hp (by rw [hL i hi]; exact hN)
    rw [hL i hi] at hr2
    rw [eA]; exact hr2

/-- A list of n lists that the call makes at the heap's old end: the first k are laid, each in a block of its own behind it; the others have none. -/
structure Lays (w w' : World) (n k N : Nat) (a : Nat → Nat) (F : Nat → Nat → Int) : Prop where
  below : Below w.heap.size w w'
  lt : w.heap.size < w'.heap.size
  cell : ∀ i, i < k → w'.cell? ⟨w.heap.size, i, none⟩ = some (.slice (some ⟨a i, 0, none⟩) N N)
  todo : ∀ i, k ≤ i → i < n → w'.cell? ⟨w.heap.size, i, none⟩ = some (.slice none 0 0)
  free : ∀ i, i < n → w'.frozen? ⟨w.heap.size, i, none⟩ = false
  high : ∀ i, i < k → w.heap.size < a i ∧ a i < w'.heap.size
  apart : ∀ i j, i < j → j < k → a i ≠ a j
  row : ∀ i, i < k → Row w' (a i) 0 N (F i)
  may : ∀ i, i < k → Free w' (a i) 0 N

theorem Lays.start (w : World) (n N : Nat) (a : Nat → Nat) (F : Nat → Nat → Int) (t : TypeId) : Lays w (w.alloc (.cells (madeCells #[.slice none 0 0] n) t)) n 0 N a F := by
  refine ⟨(Below.refl _ _).alloc (Nat.le_refl _) _, by simp, fun i hi => absurd hi (by omega), fun i _ hi => ?_, fun i _ => ?_, fun i hi => absurd hi (by omega), fun i j _ hj => absurd hj (by omega), fun i hi => absurd hi (by omega), fun i hi => absurd hi (by omega)⟩
  · rw [World.cell?_alloc_new]; simp [madeCells, hi, Nat.mod_one]
  · rw [World.frozen?_alloc_new]
theorem Lays.drew {w w' : World} {n k N : Nat} {a : Nat → Nat} {F : Nat → Nat → Int} (h : Lays w w' n k N a F) : Lays w w'.drew n k N a F := ⟨h.below.drew, h.lt, h.cell, h.todo, h.free, h.high, h.apart, h.row, h.may⟩
theorem Lays.kept {w w' w'' : World} {n k N : Nat} {a : Nat → Nat} {F : Nat → Nat → Int} (h : Lays w w' n k N a F) (hb : Below w'.heap.size w' w'') : Lays w w'' n k N a F :=
  ⟨h.below.trans (hb.mono h.below.size), Nat.lt_of_lt_of_le h.lt hb.size, fun i hi => (hb.cell h.lt).trans (h.cell i hi), fun i h1 hi => (hb.cell h.lt).trans (h.todo i h1 hi), fun i hi => (hb.frozen h.lt).trans (h.free i hi),
   fun i hi => ⟨(h.high i hi).1, Nat.lt_of_lt_of_le (h.high i hi).2 hb.size⟩, h.apart, fun i hi => (h.row i hi).kept hb (h.high i hi).2, fun i hi => (h.may i hi).kept hb (h.high i hi).2⟩
theorem Lays.congr {w w' : World} {n k N : Nat} {a : Nat → Nat} {F G : Nat → Nat → Int} (h : Lays w w' n k N a F) (e : ∀ i j, i < k → j < N → F i j = G i j) : Lays w w' n k N a G :=
  ⟨h.below, h.lt, h.cell, h.todo, h.free, h.high, h.apart, fun i hi => (h.row i hi).congr fun j hj => e i j hi hj, h.may⟩
def putA (a : Nat → Nat) (k b : Nat) (i : Nat) : Nat := if i = k then b else a i
def putF (F : Nat → Nat → Int) (k : Nat) (f : Nat → Int) (i : Nat) : Nat → Int := if i = k then f else F i
/-- One list more: it was made, and is stored. -/
theorem Lays.next {w w' w1 : World} {n k N b : Nat} {a : Nat → Nat} {F : Nat → Nat → Int} {f : Nat → Int} (h : Lays w w' n k N a F) (hk : k < n) (hN : 0 < N) (hb : Below w'.heap.size w' w1) (hB : w'.heap.size ≤ b) (hr : Row w1 b 0 N f) (hf : Free w1 b 0 N) :
    Lays w (w1.setCell ⟨w.heap.size, k, none⟩ (.slice (some ⟨b, 0, none⟩) N N)) n (k + 1) N (putA a k b) (putF F k f) := by
  have h1 := h.kept hb
  have hlt := h.lt
  have hb1 : b < w1.heap.size := hr.lt hN
  have hW : Wrote w.heap.size k 1 w1 (w1.setCell ⟨w.heap.size, k, none⟩ (.slice (some ⟨b, 0, none⟩) N N)) := (Wrote.refl _ _ _ _).store (Nat.le_refl _) (by omega) _
  refine ⟨h1.below.setCell (Nat.le_refl _) _, by rw [World.size_setCell]; exact h1.lt, fun i hi => ?_, fun i h2 hi => ?_, fun i hi => by rw [World.frozen?_setCell]; exact h1.free i hi, fun i hi => ?_, fun i j hij hj => ?_, fun i hi => ?_, fun i hi => ?_⟩
  · by_cases e : i = k
    · subst e
      rw [World.cell?_setCell_same _ _ _ (h1.todo i (Nat.le_refl _) hk), putA, if_pos rfl]
    · rw [hW.cell i (by omega), h1.cell i (by omega), putA, if_neg e]
  · rw [hW.cell i (by omega), h1.todo i (by omega) hi]
  · rw [World.size_setCell]
    by_cases e : i = k
    · rw [putA, if_pos e]; omega
    · rw [putA, if_neg e]; exact h1.high i (by omega)
  · rw [putA, if_neg (by omega)]
    by_cases e : j = k
    · rw [putA, if_pos e]
      have := (h.high i (by omega)).2
      omega
    · rw [putA, if_neg e]; exact h.apart i j hij (by omega)
  · by_cases e : i = k
    · rw [putA, if_pos e, putF, if_pos e]; exact hr.other hW (by omega)
    · rw [putA, if_neg e, putF, if_neg e]; exact (h1.row i (by omega)).other hW (by have := (h1.high i (by omega)).1; omega)
  · have hfr : ∀ c, Free w1 c 0 N → Free (w1.setCell ⟨w.heap.size, k, none⟩ (.slice (some ⟨b, 0, none⟩) N N)) c 0 N := fun c hc j hj => by rw [World.frozen?_setCell]; exact hc j hj
    by_cases e : i = k
    · rw [putA, if_pos e]; exact hfr _ hf
    · rw [putA, if_neg e]; exact hfr _ (h1.may i (by omega))
theorem Lays.tabs {w w' : World} {n N : Nat} {a : Nat → Nat} {F : Nat → Nat → Int} (h : Lays w w' n n N a F) : Tabs w' w.heap.size 0 n a (fun _ => 0) (fun _ => N) N F :=
  ⟨fun i hi => by rw [Nat.zero_add]; exact h.cell i hi, h.row⟩
theorem Made.keep {w w' w'' : World} {n : Nat} {f : Nat → Int} (h : Made w w' n f) (hn : 0 < n) (hb : Below w'.heap.size w' w'') : Made w w'' n f :=
  ⟨h.below.trans (hb.mono h.below.size), h.row.kept hb (h.row.lt hn), h.free.kept hb (h.row.lt hn)⟩

end Go.Proofs.YtbchbmelofojkaaGreatDoor
