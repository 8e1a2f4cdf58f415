/-
  Plain: circuits: which are right, what their layers tell; adding gates alone are linear; and how a circuit lies in memory; no program in it.
-/
import Derived.Test.YtbchbmelofojkaaGreatDoorText
import Derived.Test.YtbchbmelofojkaaGreatDoorMulti
import Derived.Test.YtbchbmelofojkaaGreatDoorMem
import Derived.Test.YtbchbmelofojkaaGreatDoorOwn
namespace Go.Proofs.YtbchbmelofojkaaGreatDoor
open Go.RowKit
set_option linter.unusedVariables false

/-- Is n from lo to hi? -/
def inQ (n lo hi : Int) : Prop := lo ≤ n ∧ n ≤ hi
/-- A gate's inputs are numbers of the layer below, of N numbers. -/
def gateOk (N : Int) (g : GQ) : Prop := (0 ≤ g.a ∧ g.a < N) ∧ (0 ≤ g.b ∧ g.b < N)
/-- A layer's first error, above one of 2^k. -/
def layerE (k : Int) (l : LQ) (e : Int) : Prop :=
  (¬ (0 ≤ l.log ∧ l.log ≤ 4) ∧ e = 1) ∨
  ((0 ≤ l.log ∧ l.log ≤ 4) ∧ l.gates.length ≠ 2 ^ l.log.toNat ∧ e = 4) ∨
  ((0 ≤ l.log ∧ l.log ≤ 4) ∧ l.gates.length = 2 ^ l.log.toNat ∧ (∃ g ∈ l.gates, ¬ gateOk ((2 ^ k.toNat : Nat) : Int) g) ∧ e = 1) ∨
  ((0 ≤ l.log ∧ l.log ≤ 4) ∧ l.gates.length = 2 ^ l.log.toNat ∧ (∀ g ∈ l.gates, gateOk ((2 ^ k.toNat : Nat) : Int) g) ∧ e = 0)
def LQ.right (k : Int) (l : LQ) : Prop := (0 ≤ l.log ∧ l.log ≤ 4) ∧ l.gates.length = 2 ^ l.log.toNat ∧ ∀ g ∈ l.gates, gateOk ((2 ^ k.toNat : Nat) : Int) g
/-- The error of the first layer that has one; 0: none has. -/
def layersE : Int → List LQ → Int → Prop
  | _, [], e => e = 0
  | k, l :: r, e => (∃ e', layerE k l e' ∧ e' ≠ 0 ∧ e = e') ∨ (l.right k ∧ layersE l.log r e)
/-- Check. -/
def checkE (c : CQ) (e : Int) : Prop :=
  ((¬ (0 ≤ c.log ∧ c.log ≤ 4) ∨ c.layers = []) ∧ e = 1) ∨
  ((0 ≤ c.log ∧ c.log ≤ 4) ∧ 4 < c.layers.length ∧ e = 2) ∨
  ((0 ≤ c.log ∧ c.log ≤ 4) ∧ c.layers ≠ [] ∧ c.layers.length ≤ 4 ∧ layersE c.log c.layers e)
theorem layerE_one {k : Int} {l : LQ} {e e' : Int} (h : layerE k l e) (h' : layerE k l e') : e = e' := by
  rcases h with ⟨h1, h2⟩ | ⟨h1, h2, h3⟩ | ⟨h1, h2, ⟨g, hg, hn⟩, h4⟩ | ⟨h1, h2, h3, h4⟩ <;> rcases h' with ⟨g1, g2⟩ | ⟨g1, g2, g3⟩ | ⟨g1, g2, ⟨g', hg', hn'⟩, g4⟩ | ⟨g1, g2, g3, g4⟩ <;> first | omega | exact absurd h2 g2 | exact absurd g2 h2 | exact absurd (g3 g hg) hn | exact absurd (h3 g' hg') hn' | exact absurd h1 g1 | exact absurd g1 h1 | exact absurd (h3 _ (by assumption)) (by assumption) | exact absurd (g3 _ (by assumption)) (by assumption)
theorem layerE_right {k : Int} {l : LQ} (h : l.right k) : layerE k l 0 := .inr (.inr (.inr ⟨h.1, h.2.1, h.2.2, rfl⟩))
theorem layersE_one {r : List LQ} : ∀ {k e e' : Int}, layersE k r e → layersE k r e' → e = e' := by
  induction r with
  | nil => intro k e e' h h'; exact h.trans h'.symm
  | cons l r ih =>
    intro k e e' h h'
    rcases h with ⟨x, h1, h2, h3⟩ | ⟨h1, h2⟩
    · rcases h' with ⟨x', g1, g2, g3⟩ | ⟨g1, g2⟩
      · rw [h3, g3]; exact layerE_one h1 g1
      · exact absurd (layerE_one h1 (layerE_right g1)) h2
    · rcases h' with ⟨x', g1, g2, g3⟩ | ⟨g1, g2⟩
      · exact absurd (layerE_one g1 (layerE_right h1)) g2
      · exact ih h2 g2
/-- Check answers one error. -/
theorem checkE_one {c : CQ} {e e' : Int} (h : checkE c e) (h' : checkE c e') : e = e' := by
  rcases h with ⟨h1, h2⟩ | ⟨h1, h2, h3⟩ | ⟨h1, h2, h3, h4⟩ <;> rcases h' with ⟨g1, g2⟩ | ⟨g1, g2, g3⟩ | ⟨g1, g2, g3, g4⟩
  · omega
  · rcases h1 with h1 | h1
    · exact absurd g1 h1
    · rw [h1] at g2; simp at g2
  · rcases h1 with h1 | h1
    · exact absurd g1 h1
    · exact absurd h1 g2
  · rcases g1 with g1 | g1
    · exact absurd h1 g1
    · rw [g1] at h2; simp at h2
  · omega
  · omega
  · rcases g1 with g1 | g1
    · exact absurd h1 g1
    · exact absurd g1 h2
  · omega
  · exact layersE_one h4 g4

/-- A right circuit. -/
def layersR : Int → List LQ → Prop
  | _, [] => True
  | k, l :: r => l.right k ∧ layersR l.log r
structure CQ.right (c : CQ) : Prop where
  log : 0 ≤ c.log ∧ c.log ≤ 4
  some : c.layers ≠ []
  few : c.layers.length ≤ 4
  each : layersR c.log c.layers
theorem layersE_zero {r : List LQ} : ∀ {k : Int}, layersE k r 0 ↔ layersR k r := by
  induction r with
  | nil => intro k; exact ⟨fun _ => trivial, fun _ => rfl⟩
  | cons l r ih =>
    intro k
    constructor
    · rintro (⟨x, h1, h2, h3⟩ | ⟨h1, h2⟩)
      · exact absurd h3.symm h2
      · exact ⟨h1, ih.1 h2⟩
    · exact fun h => .inr ⟨h.1, ih.2 h.2⟩
theorem checkE_zero {c : CQ} : checkE c 0 ↔ c.right := by
  constructor
  · rintro (⟨_, h2⟩ | ⟨_, _, h3⟩ | ⟨h1, h2, h3, h4⟩)
    · omega
    · omega
    · exact ⟨h1, h2, h3, layersE_zero.1 h4⟩
  · exact fun h => .inr (.inr ⟨h.log, h.some, h.few, layersE_zero.2 h.each⟩)
/-- The Log of the layer below layer i. -/
def belowQ (c : CQ) : Nat → Int
  | 0 => c.log
  | i + 1 => (c.layers[i]?.map LQ.log).getD 0
theorem layersR_at {r : List LQ} : ∀ {k : Int}, layersR k r → ∀ (i : Nat) (l : LQ), r[i]? = some l → l.right (match i with | 0 => k | j + 1 => (r[j]?.map LQ.log).getD 0) := by
  induction r with
  | nil => intro k h i l e; simp at e
  | cons x r ih =>
    intro k h i l e
    cases i with
    | zero => simp at e; subst e; exact h.1
    | succ i =>
      rw [List.getElem?_cons_succ] at e
      have := ih h.2 i l e
      cases i with
      | zero => exact this
      | succ i => exact this
theorem CQ.right.layer {c : CQ} (h : c.right) (i : Nat) (l : LQ) (e : c.layers[i]? = Option.some l) : l.right (belowQ c i) := by
  have := layersR_at h.each i l e
  cases i with
  | zero => exact this
  | succ i => exact this

/-- A layer's values, of those of the layer below. -/
def layV (gs : List GQ) (f : Nat → Int) (j : Nat) : Int := match gs[j]? with
  | some g => if g.mul then mulQ (f g.a.toNat) (f g.b.toNat) else addQ (f g.a.toNat) (f g.b.toNat)
  | none => 0
/-- The values of the inputs (0), and of each layer. -/
def valsQ (c : CQ) (f : Nat → Int) : Nat → Nat → Int
  | 0, j => nrm (f j)
  | i + 1, j => match c.layers[i]? with
    | some l => layV l.gates (valsQ c f i) j
    | none => 0
theorem layV_rng (gs : List GQ) (f : Nat → Int) (j : Nat) : 0 ≤ layV gs f j ∧ layV gs f j ≤ 2305843009213693950 := by
  unfold layV
  split
  · split
    · exact mulQ_rng _ _
    · exact addQ_rng _ _
  · omega
theorem valsQ_rng (c : CQ) (f : Nat → Int) (i j : Nat) : 0 ≤ valsQ c f i j ∧ valsQ c f i j ≤ 2305843009213693950 := by
  cases i with
  | zero => exact nrm_rng _
  | succ i =>
    rw [valsQ]
    split
    · exact layV_rng _ _ _
    · omega
/-- The first layers alone tell what they do in it. -/
theorem vals_part (c d : CQ) (f : Nat → Int) (n : Nat) (h : ∀ i, i < n → d.layers[i]? = c.layers[i]?) (i : Nat) (hi : i ≤ n) : valsQ d f i = valsQ c f i := by
  induction i with
  | zero => rfl
  | succ i ih =>
    funext j
    rw [valsQ, valsQ, h i (by omega), ih (by omega)]
/-- Adding gates alone are linear. -/
theorem vals_add (c : CQ) (f g s : Nat → Int) (hs : ∀ j, j < 2 ^ c.log.toNat → s j = addQ (f j) (g j)) (hr : c.right) (ha : ∀ l ∈ c.layers, ∀ q ∈ l.gates, q.mul = false) (i : Nat) (hi : i ≤ c.layers.length) : ∀ j, j < 2 ^ (belowQ c i).toNat → valsQ c s i j = addQ (valsQ c f i j) (valsQ c g i j) := by
  induction i with
  | zero =>
    intro j hj
    rw [valsQ, valsQ, valsQ, hs j hj, nrm_ofK, kk_addQ, addQ_ofK, kk_nrm, kk_nrm]
  | succ i ih =>
    intro j hj
    obtain ⟨l, hl⟩ : ∃ l, c.layers[i]? = some l := ⟨c.layers[i], by simp⟩
    have hR := hr.layer i l hl
    rw [belowQ, hl] at hj
    have hj2 : j < l.gates.length := by rw [hR.2.1]; exact hj
    obtain ⟨q, hq⟩ : ∃ q, l.gates[j]? = some q := ⟨l.gates[j], by simp [hj2]⟩
    have hm := ha l (List.mem_of_getElem? hl) q (List.mem_of_getElem? hq)
    obtain ⟨⟨a0, a1⟩, b0, b1⟩ := hR.2.2 q (List.mem_of_getElem? hq)
    have e1 := ih (by omega) q.a.toNat (by omega)
    have e2 := ih (by omega) q.b.toNat (by omega)
    simp only [valsQ, hl, layV, hq, hm, Bool.false_eq_true, if_false, e1, e2]
    simp only [addQ_ofK, kk_ofK]
    congr 1
    grind

/-- The gates of a layer lie in memory. -/
def GRow (w : World) (ao : Option Addr) (gs : List GQ) : Prop := gs ≠ [] → ∃ b off, ao = some ⟨b, off, none⟩ ∧ ∀ j g, gs[j]? = some g →
  w.cell? ⟨b, off + 3 * j, none⟩ = some (.bool g.mul) ∧ w.cell? ⟨b, off + 3 * j + 1, none⟩ = some (.int .i64 g.a) ∧ w.cell? ⟨b, off + 3 * j + 2, none⟩ = some (.int .i64 g.b)
/-- The layers of a circuit lie in memory. -/
def CRow (w : World) (ao : Option Addr) (ls : List LQ) (A : Nat → Option Addr) (C : Nat → Nat) : Prop := ls ≠ [] → ∃ b off, ao = some ⟨b, off, none⟩ ∧ ∀ i l, ls[i]? = some l →
  w.cell? ⟨b, off + 2 * i, none⟩ = some (.int .i64 l.log) ∧ w.cell? ⟨b, off + 2 * i + 1, none⟩ = some (.slice (A i) l.gates.length (C i)) ∧ GRow w (A i) l.gates ∧ l.gates.length ≤ C i
theorem GRow.kept {w w' : World} {ao : Option Addr} {gs : List GQ} (h : GRow w ao gs) (hb : Below w.heap.size w w') : GRow w' ao gs := fun hn => by
  obtain ⟨b, off, e, hr⟩ := h hn
  refine ⟨b, off, e, fun j g hg => ?_⟩
  obtain ⟨h1, h2, h3⟩ := hr j g hg
  have hlt : b < w.heap.size := World.block_lt_of_cell? w _ h1
  exact ⟨(hb.cell hlt).trans h1, (hb.cell hlt).trans h2, (hb.cell hlt).trans h3⟩
theorem CRow.kept {w w' : World} {ao : Option Addr} {ls : List LQ} {A : Nat → Option Addr} {C : Nat → Nat} (h : CRow w ao ls A C) (hb : Below w.heap.size w w') : CRow w' ao ls A C := fun hn => by
  obtain ⟨b, off, e, hr⟩ := h hn
  refine ⟨b, off, e, fun i l hl => ?_⟩
  obtain ⟨h1, h2, h3, h4⟩ := hr i l hl
  have hlt : b < w.heap.size := World.block_lt_of_cell? w _ h1
  exact ⟨(hb.cell hlt).trans h1, (hb.cell hlt).trans h2, h3.kept hb, h4⟩

/-- The Log of the layer below the i-th of a list, k below the first. -/
def belowL (k : Int) (r : List LQ) : Nat → Int
  | 0 => k
  | i + 1 => (r[i]?.map LQ.log).getD 0
theorem belowL_cons (k : Int) (l : LQ) (r : List LQ) (i : Nat) : belowL k (l :: r) (i + 1) = belowL l.log r i := by
  cases i with
  | zero => rfl
  | succ i => rfl
theorem belowQ_is (c : CQ) (i : Nat) : belowQ c i = belowL c.log c.layers i := by
  cases i with
  | zero => rfl
  | succ i => rfl
/-- The first layer that is wrong tells the error. -/
theorem layersE_stop {r : List LQ} : ∀ {k : Int} {i : Nat} {l : LQ} {e : Int}, (∀ j, j < i → ∀ x, r[j]? = some x → x.right (belowL k r j)) → r[i]? = some l → layerE (belowL k r i) l e → e ≠ 0 → layersE k r e := by
  induction r with
  | nil => intro k i l e _ h; simp at h
  | cons x r ih =>
    intro k i l e h hl he hne
    cases i with
    | zero =>
      simp at hl
      subst hl
      exact .inl ⟨e, he, hne, rfl⟩
    | succ i =>
      rw [List.getElem?_cons_succ] at hl
      rw [belowL_cons] at he
      refine .inr ⟨h 0 (by omega) x rfl, ih (fun j hj y hy => ?_) hl he hne⟩
      have := h (j + 1) (by omega) y (by simpa using hy)
      rwa [belowL_cons] at this
theorem layersE_all {r : List LQ} : ∀ {k : Int}, (∀ (j : Nat) x, r[j]? = some x → x.right (belowL k r j)) → layersE k r 0 := by
  induction r with
  | nil => intro k _; rfl
  | cons x r ih =>
    intro k h
    refine .inr ⟨h 0 x rfl, ih fun j y hy => ?_⟩
    have := h (j + 1) y (by simpa using hy)
    rwa [belowL_cons] at this
theorem checkE_stop {c : CQ} {i : Nat} {l : LQ} {e : Int} (h0 : 0 ≤ c.log ∧ c.log ≤ 4) (h4 : c.layers.length ≤ 4) (h : ∀ j, j < i → ∀ x, c.layers[j]? = some x → x.right (belowQ c j)) (hl : c.layers[i]? = some l) (he : layerE (belowQ c i) l e) (hne : e ≠ 0) : checkE c e := by
  refine .inr (.inr ⟨h0, fun e => ?_, h4, layersE_stop (fun j hj x hx => by rw [← belowQ_is]; exact h j hj x hx) hl (by rw [← belowQ_is]; exact he) hne⟩)
  rw [e] at hl; simp at hl
theorem checkE_all {c : CQ} (h0 : 0 ≤ c.log ∧ c.log ≤ 4) (h1 : c.layers ≠ []) (h4 : c.layers.length ≤ 4) (h : ∀ (j : Nat) x, c.layers[j]? = some x → x.right (belowQ c j)) : checkE c 0 :=
  .inr (.inr ⟨h0, h1, h4, layersE_all fun j x hx => by rw [← belowQ_is]; exact h j x hx⟩)
/-- What is read of a text: the circuit, the place of the error, the error. -/
def parseE (s : List UInt8) (c : CQ) (at' : Nat) (e : Int) : Prop :=
  (4096 < s.length ∧ c = ⟨0, []⟩ ∧ at' = 0 ∧ e = 2) ∨
  (s.length ≤ 4096 ∧ textQ s = .error at' ∧ c = ⟨0, []⟩ ∧ e = 3) ∨
  (s.length ≤ 4096 ∧ ∃ d, textQ s = .ok d ∧ checkE d e ∧ at' = 0 ∧ (e = 0 → c = d) ∧ (e ≠ 0 → c = ⟨0, []⟩))
theorem parseE_one {s : List UInt8} {c c' : CQ} {a a' : Nat} {e e' : Int} (h : parseE s c a e) (h' : parseE s c' a' e') : c = c' ∧ a = a' ∧ e = e' := by
  rcases h with ⟨h1, h2, h3, h4⟩ | ⟨h1, h2, h3, h4⟩ | ⟨h1, d, h2, h3, h4, h5, h6⟩ <;> rcases h' with ⟨g1, g2, g3, g4⟩ | ⟨g1, g2, g3, g4⟩ | ⟨g1, d', g2, g3, g4, g5, g6⟩
  · exact ⟨h2.trans g2.symm, h3.trans g3.symm, h4.trans g4.symm⟩
  · omega
  · omega
  · omega
  · rw [h2] at g2; injection g2 with g2; exact ⟨h3.trans g3.symm, g2, h4.trans g4.symm⟩
  · rw [h2] at g2; cases g2
  · omega
  · rw [h2] at g2; cases g2
  · rw [h2] at g2; injection g2 with g2
    subst g2
    have ee := checkE_one h3 g3
    subst ee
    refine ⟨?_, h4.trans g4.symm, rfl⟩
    by_cases e0 : e = 0
    · rw [h5 e0, g5 e0]
    · rw [h6 e0, g6 e0]

end Go.Proofs.YtbchbmelofojkaaGreatDoor
