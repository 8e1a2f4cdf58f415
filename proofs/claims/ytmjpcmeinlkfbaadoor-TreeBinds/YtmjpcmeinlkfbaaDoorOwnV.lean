/-
  Lists of lists of whatever lengths that a call itself makes and appends to: what append leaves, what stays; lists of whole numbers (places) in memory.
-/
import Derived.Test.YtmjpcmeinlkfbaaDoorOwnL
namespace Go.Proofs.YtmjpcmeinlkfbaaDoor
open Go.RowKit
set_option linter.unusedVariables false

/-- Lists as the cells of a row. -/
def slv (n : Nat) (A : Nat → Option Addr) (L C : Nat → Nat) : List Value := (List.range n).map fun i => Value.slice (A i) (L i) (C i)
theorem slv_len (n : Nat) (A : Nat → Option Addr) (L C : Nat → Nat) : (slv n A L C).length = n := by simp [slv]
theorem slv_at (n : Nat) (A : Nat → Option Addr) (L C : Nat → Nat) (i : Nat) (h : i < n) : (slv n A L C)[i]? = some (.slice (A i) (L i) (C i)) := by simp [slv, h]
theorem slv_past (n : Nat) (A : Nat → Option Addr) (L C : Nat → Nat) (i : Nat) (h : n ≤ i) : (slv n A L C)[i]? = none := by simp [slv, h]
def putO (a : Nat → Option Addr) (k : Nat) (b : Option Addr) (i : Nat) : Option Addr := if i = k then b else a i
theorem slv_snoc (n : Nat) (A : Nat → Option Addr) (L C : Nat → Nat) (b : Option Addr) (l d : Nat) : slv n A L C ++ [.slice b l d] = slv (n + 1) (putO A n b) (putA L n l) (putA C n d) := by
  apply List.ext_getElem?
  intro j
  by_cases h : j < n
  · rw [List.getElem?_append_left (by rw [slv_len]; exact h), slv_at n A L C j h, slv_at _ _ _ _ j (by omega), putO, putA, putA, if_neg (by omega), if_neg (by omega), if_neg (by omega)]
  · rw [List.getElem?_append_right (by rw [slv_len]; omega), slv_len]
    by_cases h2 : j = n
    · subst h2
      rw [slv_at _ _ _ _ j (by omega), putO, putA, putA, if_pos rfl, if_pos rfl, if_pos rfl]
      simp
    · rw [slv_past _ _ _ _ j (by omega), List.getElem?_eq_none (by simp; omega)]
/-- v is a list of the call's own: n lists, list i of L i numbers F i, none of them in v's own block. -/
structure OwnV (w : World) (base : Nat) (v : Value) (n : Nat) (A : Nat → Option Addr) (L C : Nat → Nat) (F : Nat → Nat → Int) : Prop where
  own : w.ownsRow base 25 1 v n (slv n A L C)
  apart : ∀ i, i < n → ∀ a, A i = some a → v.ownBlock ≠ some a.block
  lt : ∀ i, i < n → ∀ a, A i = some a → a.block < w.heap.size
  row : ∀ i, i < n → PRow w (A i) (L i) (F i)
theorem OwnV.nil (w : World) (base : Nat) (A : Nat → Option Addr) (L C : Nat → Nat) (F : Nat → Nat → Int) : OwnV w base (.slice none 0 0) 0 A L C F :=
  ⟨World.ownsRow_nil w base 25 1, fun i hi => absurd hi (by omega), fun i hi => absurd hi (by omega), fun i hi => absurd hi (by omega)⟩
/-- A list that is laid with one list in it. -/
theorem OwnV.one (w : World) (base : Nat) (a : Option Addr) (l c : Nat) (f : Nat → Int) (hb : base ≤ w.heap.size) (hl : ∀ x, a = some x → x.block < w.heap.size) (hr : PRow w a l f) :
    OwnV (w.alloc (.cells #[.slice a l c] 25)) base (.slice (some ⟨w.heap.size, 0, none⟩) 1 1) 1 (fun _ => a) (fun _ => l) (fun _ => c) (fun _ => f) :=
  ⟨World.ownsRow_lit w #[.slice a l c] 1 hb (by unfold maxLen; omega) rfl, fun i hi x hx e => by have h1 := hl x hx; have h2 : w.heap.size = x.block := Option.some.inj e; omega, fun i hi x hx => by have := hl x hx; simp; omega, fun i hi => hr.kept ((Below.refl _ w).alloc (Nat.le_refl _) _)⟩
theorem OwnV.drew {w : World} {base : Nat} {v : Value} {n : Nat} {A : Nat → Option Addr} {L C : Nat → Nat} {F : Nat → Nat → Int} (h : OwnV w base v n A L C F) : OwnV w.drew base v n A L C F := ⟨h.own, h.apart, h.lt, h.row⟩
theorem OwnV.kept {w w' : World} {base : Nat} {v : Value} {n : Nat} {A : Nat → Option Addr} {L C : Nat → Nat} {F : Nat → Nat → Int} (h : OwnV w base v n A L C F) (hb : Below w.heap.size w w') : OwnV w' base v n A L C F := by
  refine ⟨?_, h.apart, fun i hi a e => Nat.lt_of_lt_of_le (h.lt i hi a e) hb.size, fun i hi => (h.row i hi).kept hb⟩
  refine ⟨h.own.1, ?_⟩
  rcases h.own.2 with h2 | ⟨g, cap, cur, hv, hg, hh, r⟩
  · exact .inl h2
  · have hlt : g < w.heap.size := (Array.getElem?_eq_some_iff.1 hh).1
    exact .inr ⟨g, cap, cur, hv, hg, (hb.block g hlt).trans hh, r⟩
theorem OwnV.far {w : World} {base : Nat} {v : Value} {n b : Nat} {A : Nat → Option Addr} {L C : Nat → Nat} {F : Nat → Nat → Int} (h : OwnV w base v n A L C F) (hb : w.heap.size ≤ b) : v.ownBlock ≠ some b := fun e => by have := (h.own.lt b e).2; omega
theorem OwnV.is {w : World} {base : Nat} {v : Value} {n : Nat} {A : Nat → Option Addr} {L C : Nat → Nat} {F : Nat → Nat → Int} (h : OwnV w base v n A L C F) : ∃ ao cap, v = .slice ao n cap ∧ n ≤ cap ∧ LRow w ao n A L C F := by
  have ho := h.own
  rcases ho.2 with ⟨rfl, rfl⟩ | ⟨g, cap, cur, rfl, _, _, hle, _⟩
  · exact ⟨none, 0, rfl, Nat.le_refl _, fun h0 => by omega⟩
  · refine ⟨some ⟨g, 0, none⟩, cap, rfl, hle, fun _ => ⟨g, 0, rfl, fun i hi => ⟨?_, h.row i hi⟩⟩⟩
    rw [Nat.zero_add, ho.cellAt i (by omega), slv_at n A L C i hi]
/-- One list more: what append left. -/
theorem OwnV.next {w w' : World} {base : Nat} {v : Value} {n : Nat} {A : Nat → Option Addr} {L C : Nat → Nat} {F : Nat → Nat → Int} {g cap l d : Nat} {ao : Option Addr} {f : Nat → Int} (h : OwnV w base v n A L C F)
    (ho : w'.ownsRow base 25 1 (.slice (some ⟨g, 0, none⟩) (n + 1) cap) (n + 1) (slv n A L C ++ [.slice ao l d])) (hg : w.grownBy w' v.ownBlock) (hat : v.ownBlock = some g ∨ g = w.heap.size)
    (hb : ∀ a, ao = some a → a.block < w.heap.size) (hne : ∀ a, ao = some a → v.ownBlock ≠ some a.block) (hr : PRow w ao l f) : OwnV w' base (.slice (some ⟨g, 0, none⟩) (n + 1) cap) (n + 1) (putO A n ao) (putA L n l) (putA C n d) (putF F n f) := by
  have far : ∀ k, k < w.heap.size → v.ownBlock ≠ some k → some g ≠ some k := fun k hk hk2 e => by
    rcases hat with e1 | e1
    · exact hk2 (e1.trans e)
    · have := Option.some.inj e; omega
  have krow : ∀ (ao : Option Addr) (l : Nat) (f : Nat → Int), (∀ a, ao = some a → a.block < w.heap.size) → (∀ a, ao = some a → v.ownBlock ≠ some a.block) → PRow w ao l f → PRow w' ao l f := fun ao l f hk hk2 hr h0 => by
    obtain ⟨b, off, e, hr2⟩ := hr h0
    exact ⟨b, off, e, fun j hj => (World.cell?_of_block (hg.block b (hk _ e) (fun e2 => hk2 _ e e2.symm))).trans (hr2 j hj)⟩
  refine ⟨by rw [← slv_snoc]; exact ho, fun i hi a ha => ?_, fun i hi a ha => ?_, fun i hi => ?_⟩
  · show some g ≠ _
    by_cases e : i = n
    · rw [putO, if_pos e] at ha; exact far _ (hb a ha) (hne a ha)
    · rw [putO, if_neg e] at ha; exact far _ (h.lt i (by omega) a ha) (h.apart i (by omega) a ha)
  · by_cases e : i = n
    · rw [putO, if_pos e] at ha; exact Nat.lt_of_lt_of_le (hb a ha) hg.size
    · rw [putO, if_neg e] at ha; exact Nat.lt_of_lt_of_le (h.lt i (by omega) a ha) hg.size
  · by_cases e : i = n
    · rw [putO, if_pos e, putA, if_pos e, putF, if_pos e]; exact krow ao l f hb hne hr
    · rw [putO, if_neg e, putA, if_neg e, putF, if_neg e]; exact krow _ _ _ (h.lt i (by omega)) (h.apart i (by omega)) (h.row i (by omega))
theorem OwnV.congr {w : World} {base : Nat} {v : Value} {n : Nat} {A A' : Nat → Option Addr} {L L' C C' : Nat → Nat} {F F' : Nat → Nat → Int} (h : OwnV w base v n A L C F) (eA : ∀ i, i < n → A i = A' i) (eL : ∀ i, i < n → L i = L' i) (eC : ∀ i, i < n → C i = C' i) (eF : ∀ i j, i < n → j < L i → F i j = F' i j) : OwnV w base v n A' L' C' F' := by
  have e : slv n A L C = slv n A' L' C' := by
    unfold slv
    exact List.map_congr_left fun j hj => by have hj := List.mem_range.1 hj; rw [eA j hj, eL j hj, eC j hj]
  refine ⟨e ▸ h.own, fun i hi a ha => h.apart i hi a ((eA i hi).trans ha), fun i hi a ha => h.lt i hi a ((eA i hi).trans ha), fun i hi => ?_⟩
  rw [← eA i hi, ← eL i hi]
  exact (h.row i hi).congr fun j hj => eF i j hi hj

/-- n whole numbers of 64 bits lie there, if any. -/
def IRowP (w : World) (ao : Option Addr) (n : Nat) (p : Nat → Int) : Prop := 0 < n → ∃ b off, ao = some ⟨b, off, none⟩ ∧ ∀ j, j < n → w.cell? ⟨b, off + j, none⟩ = some (.int .i64 (p j))
theorem IRowP.kept {w w' : World} {ao : Option Addr} {n : Nat} {p : Nat → Int} (h : IRowP w ao n p) (hb : Below w.heap.size w w') : IRowP w' ao n p := fun hn => by
  obtain ⟨b, off, e, hr⟩ := h hn
  exact ⟨b, off, e, fun j hj => (hb.cell (World.block_lt_of_cell? w _ (hr j hj))).trans (hr j hj)⟩
theorem IRowP.drew {w : World} {ao : Option Addr} {n : Nat} {p : Nat → Int} (h : IRowP w ao n p) : IRowP w.drew ao n p := h
theorem IRowP.congr {w : World} {ao : Option Addr} {n : Nat} {p q : Nat → Int} (h : IRowP w ao n p) (e : ∀ j, j < n → p j = q j) : IRowP w ao n q := fun hn => by
  obtain ⟨b, off, e1, hr⟩ := h hn
  exact ⟨b, off, e1, fun j hj => by rw [← e j hj]; exact hr j hj⟩
theorem IRowP.one (w : World) (x : Int) (t : TypeId) : IRowP (w.alloc (.cells #[.int .i64 x] t)) (some ⟨w.heap.size, 0, none⟩) 1 (fun _ => x) := fun _ => ⟨_, _, rfl, fun j hj => by
  rw [Nat.zero_add, World.cell?_alloc_new]
  match j, hj with
  | 0, _ => rfl⟩
/-- Lists of like length made and stored: one list more, whatever its length. -/
theorem Lays.more {w w' w1 : World} {n k N b : Nat} {a : Nat → Nat} {F : Nat → Nat → Int} {f : Nat → Int} (h : Lays w w' n k N a F) (hk : k < n) (hb1 : b < w1.heap.size) (hb : Below w'.heap.size w' w1) (hB : w'.heap.size ≤ b) (hr : Row w1 b 0 N f) (hf : Free w1 b 0 N) :
    Lays w (w1.setCell ⟨w.heap.size, k, none⟩ (.slice (some ⟨b, 0, none⟩) N N)) n (k + 1) N (putA a k b) (putF F k f) := by
  have h1 := h.kept hb
  have hlt := h.lt
  have hW : Wrote w.heap.size k 1 w1 (w1.setCell ⟨w.heap.size, k, none⟩ (.slice (some ⟨b, 0, none⟩) N N)) := (Wrote.refl _ _ _ _).store (Nat.le_refl _) (by omega) _
  refine ⟨h1.below.setCell (Nat.le_refl _) _, by rw [World.size_setCell]; exact h1.lt, fun i hi => ?_, fun i h2 hi => ?_, fun i hi => by rw [World.frozen?_setCell]; exact h1.free i hi, fun i hi => ?_, fun i j hij hj => ?_, fun i hi => ?_, fun i hi => ?_⟩
  · by_cases e : i = k
    · subst e
      rw [World.cell?_setCell_same _ _ _ (h1.todo i (Nat.le_refl _) hk), putA, if_pos rfl]
    · rw [hW.cell i (by omega), h1.cell i (by omega), putA, if_neg e]
  · rw [hW.cell i (by omega), h1.todo i (by omega) hi]
  · rw [World.size_setCell]
    by_cases e : i = k
    · rw [putA, if_pos e]; omega
    · rw [putA, if_neg e]; exact h1.high i (by omega)
  · rw [putA, if_neg (by omega)]
    by_cases e : j = k
    · rw [putA, if_pos e]
      have := (h.high i (by omega)).2
      omega
    · rw [putA, if_neg e]; exact h.apart i j hij (by omega)
  · by_cases e : i = k
    · rw [putA, if_pos e, putF, if_pos e]; exact hr.other hW (by omega)
    · rw [putA, if_neg e, putF, if_neg e]; exact (h1.row i (by omega)).other hW (by have := (h1.high i (by omega)).1; omega)
  · have hfr : ∀ c, Free w1 c 0 N → Free (w1.setCell ⟨w.heap.size, k, none⟩ (.slice (some ⟨b, 0, none⟩) N N)) c 0 N := fun c hc j hj => by rw [World.frozen?_setCell]; exact hc j hj
    by_cases e : i = k
    · rw [putA, if_pos e]; exact hfr _ hf
    · rw [putA, if_neg e]; exact hfr _ (h1.may i (by omega))

end Go.Proofs.YtmjpcmeinlkfbaaDoor
