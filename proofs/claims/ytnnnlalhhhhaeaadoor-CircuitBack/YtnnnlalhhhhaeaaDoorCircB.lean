/-
  Circuits that a call itself makes: a list of layers that is appended to, and each layer's list of gates; what append and a store leave, what stays.
-/
import Derived.Test.YtnnnlalhhhhaeaaDoorChecked
import Derived.Test.YtnnnlalhhhhaeaaDoorCirc
namespace Go.Proofs.YtnnnlalhhhhaeaaDoor
open Go.RowKit
set_option linter.unusedVariables false

theorem Tryd.infoG : (Tryd.prog.info? 46).map (fun i => (i.zero.map (·.cells), i.size, i.bytes)) = some (some #[.bool false, .int .i64 0, .int .i64 0], 3, 24) := by kernel_rfl
theorem Tryd.infoY : (Tryd.prog.info? 43).map (fun i => (i.zero.map (·.cells), i.size, i.bytes)) = some (some #[.int .i64 0, .slice none 0 0], 2, 32) := by kernel_rfl
/-- Gates as the cells of a row. -/
def gcells (gs : List GQ) : List Value := gs.flatMap fun g => [.bool g.mul, .int .i64 g.a, .int .i64 g.b]
theorem gcells_len (gs : List GQ) : (gcells gs).length = gs.length * 3 := by
  induction gs with
  | nil => rfl
  | cons g r ih => simp only [gcells, List.flatMap_cons, List.length_append, List.length_cons, List.length_nil] at ih ⊢; omega
theorem gcells_at (gs : List GQ) : ∀ (j : Nat) (g : GQ), gs[j]? = some g → (gcells gs)[3 * j]? = some (.bool g.mul) ∧ (gcells gs)[3 * j + 1]? = some (.int .i64 g.a) ∧ (gcells gs)[3 * j + 2]? = some (.int .i64 g.b) := by
  induction gs with
  | nil => intro j g h; simp at h
  | cons x r ih =>
    intro j g h
    cases j with
    | zero => simp at h; subst h; simp [gcells]
    | succ j =>
      have := ih j g (by simpa using h)
      have e : gcells (x :: r) = .bool x.mul :: .int .i64 x.a :: .int .i64 x.b :: gcells r := by simp [gcells]
      rw [e, show 3 * (j + 1) = 3 * j + 1 + 1 + 1 from by omega]
      simpa using this
theorem gcells_snoc (gs : List GQ) (g : GQ) : gcells (gs ++ [g]) = gcells gs ++ [.bool g.mul, .int .i64 g.a, .int .i64 g.b] := by simp [gcells]
/-- Layers, each with its list's value, as the cells of a row. -/
def lcells (ps : List (LQ × Value)) : List Value := ps.flatMap fun p => [.int .i64 p.1.log, p.2]
theorem lcells_len (ps : List (LQ × Value)) : (lcells ps).length = ps.length * 2 := by
  induction ps with
  | nil => rfl
  | cons g r ih => simp only [lcells, List.flatMap_cons, List.length_append, List.length_cons, List.length_nil] at ih ⊢; omega
theorem lcells_at (ps : List (LQ × Value)) : ∀ (j : Nat) (p : LQ × Value), ps[j]? = some p → (lcells ps)[2 * j]? = some (.int .i64 p.1.log) ∧ (lcells ps)[2 * j + 1]? = some p.2 := by
  induction ps with
  | nil => intro j g h; simp at h
  | cons x r ih =>
    intro j g h
    cases j with
    | zero => simp at h; subst h; simp [lcells]
    | succ j =>
      have := ih j g (by simpa using h)
      have e : lcells (x :: r) = .int .i64 x.1.log :: x.2 :: lcells r := by simp [lcells]
      rw [e, show 2 * (j + 1) = 2 * j + 1 + 1 from by omega]
      simpa using this
theorem lcells_snoc (ps : List (LQ × Value)) (p : LQ × Value) : lcells (ps ++ [p]) = lcells ps ++ [.int .i64 p.1.log, p.2] := by simp [lcells]
theorem lcells_last (ps : List (LQ × Value)) (l : LQ) (u v : Value) (gs : List GQ) : (lcells (ps ++ [(l, u)])).set (2 * ps.length + 1) v = lcells (ps ++ [(⟨l.log, gs⟩, v)]) := by
  rw [lcells_snoc, lcells_snoc]
  have hl := lcells_len ps
  rw [List.set_append_right _ _ (by omega), show 2 * ps.length + 1 - (lcells ps).length = 1 from by omega]
  rfl

/-- v is a list of layers of the call's own; ps: the layers, and the values that their lists of gates have. -/
structure OwnC (w : World) (base : Nat) (v : Value) (ps : List (LQ × Value)) : Prop where
  own : w.ownsRow base 43 2 v ps.length (lcells ps)
  gates : ∀ p ∈ ps, w.ownsRow base 46 3 p.2 p.1.gates.length (gcells p.1.gates)
  apart : ∀ p ∈ ps, ∀ b, p.2.ownBlock = some b → v.ownBlock ≠ some b
  each : ps.Pairwise fun p q => ∀ b, p.2.ownBlock = some b → q.2.ownBlock ≠ some b
theorem OwnC.nil (w : World) (base : Nat) : OwnC w base (.slice none 0 0) [] :=
  ⟨World.ownsRow_nil w base _ 2, by simp, by simp, List.Pairwise.nil⟩
theorem owns_kept {w w' : World} {base : Nat} {e : TypeId} {size : Nat} {v : Value} {n : Nat} {xs : List Value} (h : w.ownsRow base e size v n xs) (hb : Below w.heap.size w w') : w'.ownsRow base e size v n xs := by
  refine ⟨h.1, ?_⟩
  rcases h.2 with h2 | ⟨g, cap, cur, hv, hg, hh, r⟩
  · exact .inl h2
  · exact .inr ⟨g, cap, cur, hv, hg, (hb.block g (Array.getElem?_eq_some_iff.1 hh).1).trans hh, r⟩
theorem OwnC.kept {w w' : World} {base : Nat} {v : Value} {ps : List (LQ × Value)} (h : OwnC w base v ps) (hb : Below w.heap.size w w') : OwnC w' base v ps :=
  ⟨owns_kept h.own hb, fun p hp => owns_kept (h.gates p hp) hb, h.apart, h.each⟩
/-- What is changed lies below, or in another block than all of it. -/
theorem OwnC.grown {w w' : World} {base : Nat} {v : Value} {ps : List (LQ × Value)} {row : Option Nat} (h : OwnC w base v ps) (hg : w.grownBy w' row) (h1 : v.ownBlock = none ∨ v.ownBlock ≠ row) (h2 : ∀ p ∈ ps, p.2.ownBlock = none ∨ p.2.ownBlock ≠ row) : OwnC w' base v ps :=
  ⟨h.own.kept hg h1, fun p hp => (h.gates p hp).kept hg (h2 p hp), h.apart, h.each⟩
theorem ne_own {a row : Option Nat} (h : ∀ b, a = some b → row ≠ some b) : a = none ∨ a ≠ row := by
  cases a with
  | none => exact .inl rfl
  | some b => exact .inr (fun e => h b rfl e.symm)
/-- One layer more: what append left. -/
theorem OwnC.layer {w w' : World} {base : Nat} {v : Value} {ps : List (LQ × Value)} {g cap : Nat} {log : Int} (h : OwnC w base v ps)
    (ho : w'.ownsRow base 43 2 (.slice (some ⟨g, 0, none⟩) (ps.length + 1) cap) (ps.length + 1) (lcells ps ++ [.int .i64 log, .slice none 0 0])) (hg : w.grownBy w' v.ownBlock) (hat : v.ownBlock = some g ∨ w.heap.size ≤ g) :
    OwnC w' base (.slice (some ⟨g, 0, none⟩) (ps.length + 1) cap) (ps ++ [(⟨log, []⟩, .slice none 0 0)]) := by
  refine ⟨by rw [lcells_snoc, List.length_append]; exact ho, fun p hp => ?_, fun p hp b hb => ?_, ?_⟩
  · rcases List.mem_append.1 hp with hp | hp
    · exact (h.gates p hp).kept hg (ne_own (h.apart p hp))
    · simp at hp; subst hp; exact World.ownsRow_nil w' base _ 3
  · rcases List.mem_append.1 hp with hp | hp
    · intro e
      have eg : g = b := by simpa [Value.ownBlock] using e
      rcases hat with e1 | e1
      · exact h.apart p hp b hb (by rw [e1, eg])
      · have := ((h.gates p hp).lt b hb).2; omega
    · simp at hp; subst hp; simp [Value.ownBlock] at hb
  · refine List.pairwise_append.2 ⟨h.each, List.pairwise_singleton _ _, fun p hp q hq b hb => ?_⟩
    simp at hq; subst hq; simp [Value.ownBlock]
/-- One gate more in the last layer: what append and the store behind it left. -/
theorem OwnC.gate {w w1 : World} {base : Nat} {vb vc : Nat} {qs : List (LQ × Value)} {l : LQ} {gv : Value} {g cap : Nat} {x : GQ} (h : OwnC w base (.slice (some ⟨vb, 0, none⟩) (qs.length + 1) vc) (qs ++ [(l, gv)]))
    (ho : w1.ownsRow base 46 3 (.slice (some ⟨g, 0, none⟩) (l.gates.length + 1) cap) (l.gates.length + 1) (gcells l.gates ++ [.bool x.mul, .int .i64 x.a, .int .i64 x.b])) (hg : w.grownBy w1 gv.ownBlock) (hat : gv.ownBlock = some g ∨ w.heap.size ≤ g) :
    OwnC (w1.setCell ⟨vb, 2 * qs.length + 1, none⟩ (.slice (some ⟨g, 0, none⟩) (l.gates.length + 1) cap)) base (.slice (some ⟨vb, 0, none⟩) (qs.length + 1) vc) (qs ++ [(⟨l.log, l.gates ++ [x]⟩, .slice (some ⟨g, 0, none⟩) (l.gates.length + 1) cap)]) := by
  have hlast : (l, gv) ∈ qs ++ [(l, gv)] := by simp
  have hv := (h.own.lt vb rfl).2
  have hne : g ≠ vb := fun e => by
    rcases hat with e1 | e1
    · exact h.apart _ hlast g e1 (by rw [e]; rfl)
    · omega
  have hown1 : w1.ownsRow base 43 2 (.slice (some ⟨vb, 0, none⟩) (qs.length + 1) vc) (qs.length + 1) (lcells (qs ++ [(l, gv)])) := by
    have := h.own
    rw [List.length_append] at this
    refine this.kept hg (.inr fun e => ?_)
    exact h.apart _ hlast vb e.symm rfl
  have hst := hown1.stored (2 * qs.length + 1) (.slice (some ⟨g, 0, none⟩) (l.gates.length + 1) cap)
  rw [lcells_last qs l gv _ (l.gates ++ [x])] at hst
  have hq : ∀ p ∈ qs, ∀ b, p.2.ownBlock = some b → gv.ownBlock ≠ some b := fun p hp b hb => (List.pairwise_append.1 h.each).2.2 p hp (l, gv) (by simp) b hb
  refine ⟨by rw [List.length_append]; exact hst.1, fun p hp => ?_, fun p hp b hb => ?_, ?_⟩
  · rcases List.mem_append.1 hp with hp2 | hp2
    · refine ((h.gates p (by simp [hp2])).kept hg (ne_own (hq p hp2))).kept hst.2 (ne_own fun b hb => ?_)
      exact h.apart p (by simp [hp2]) b hb
    · simp at hp2; subst hp2
      refine World.ownsRow.kept (by rw [gcells_snoc, List.length_append]; exact ho) hst.2 (.inr fun e => hne ?_)
      simpa [Value.ownBlock] using e
  · rcases List.mem_append.1 hp with hp2 | hp2
    · exact h.apart p (by simp [hp2]) b hb
    · simp at hp2; subst hp2
      intro e
      have e1 : g = b := by simpa [Value.ownBlock] using hb
      have e2 : vb = b := by simpa [Value.ownBlock] using e
      exact hne (e1.trans e2.symm)
  · refine List.pairwise_append.2 ⟨(List.pairwise_append.1 h.each).1, List.pairwise_singleton _ _, fun p hp q hq2 b hb => ?_⟩
    simp at hq2; subst hq2
    intro e
    have e1 : g = b := by simpa [Value.ownBlock] using e
    rcases hat with e2 | e2
    · exact hq p hp b hb (by rw [e2, e1])
    · have := ((h.gates p (by simp [hp])).lt b hb).2; omega
/-- The address that a list's value has. -/
def adrV : Value → Option Addr
  | .slice a _ _ => a
  | _ => none
def capV : Value → Nat
  | .slice _ _ c => c
  | _ => 0
theorem GRow.of_own {w : World} {base : Nat} {v : Value} {gs : List GQ} (h : w.ownsRow base 46 3 v gs.length (gcells gs)) : v = .slice (adrV v) gs.length (capV v) ∧ GRow w (adrV v) gs ∧ gs.length ≤ capV v ∧ gs.length ≤ maxLen := by
  rcases h.2 with ⟨rfl, h0⟩ | ⟨g, cap, cur, rfl, _, _, hc, hm, _⟩
  · exact ⟨by rw [h0]; rfl, fun hne => absurd (List.eq_nil_of_length_eq_zero h0) hne, by omega, by omega⟩
  · refine ⟨rfl, fun _ => ⟨g, 0, rfl, fun j x hx => ?_⟩, hc, Nat.le_trans hc hm⟩
    have hj : j < gs.length := (List.getElem?_eq_some_iff.1 hx).1
    obtain ⟨e0, e1, e2⟩ := gcells_at gs j x hx
    refine ⟨?_, ?_, ?_⟩
    · rw [Nat.zero_add, h.cellAt _ (by omega), e0]
    · rw [Nat.zero_add, h.cellAt _ (by omega), e1]
    · rw [Nat.zero_add, h.cellAt _ (by omega), e2]
/-- It lies in memory as a circuit that came in does. -/
theorem OwnC.row {w : World} {base : Nat} {v : Value} {ps : List (LQ × Value)} (h : OwnC w base v ps) : v = .slice (adrV v) ps.length (capV v) ∧ ps.length ≤ capV v ∧ capV v ≤ maxLen ∧
    CRow w (adrV v) (ps.map (·.1)) (fun i => adrV ((ps[i]?.map (·.2)).getD (.slice none 0 0))) (fun i => capV ((ps[i]?.map (·.2)).getD (.slice none 0 0))) := by
  have ho := h.own
  rcases ho.2 with ⟨rfl, h0⟩ | ⟨g, cap, cur, rfl, _, _, hc, hm, _⟩
  · exact ⟨by rw [h0]; rfl, by omega, Nat.zero_le _, fun hne => absurd (by rw [List.eq_nil_of_length_eq_zero h0]; rfl) hne⟩
  · refine ⟨rfl, hc, hm, fun _ => ⟨g, 0, rfl, fun i l hl => ?_⟩⟩
    obtain ⟨p, hp, rfl⟩ : ∃ p, ps[i]? = some p ∧ p.1 = l := by
      rw [List.getElem?_map] at hl
      cases hp : ps[i]? with
      | none => rw [hp] at hl; cases hl
      | some p => rw [hp] at hl; exact ⟨p, rfl, by simpa using hl⟩
    have hj : i < ps.length := (List.getElem?_eq_some_iff.1 hp).1
    obtain ⟨e0, e1⟩ := lcells_at ps i p hp
    have hG := GRow.of_own (h.gates p (List.mem_of_getElem? hp))
    simp only [hp, Option.map_some, Option.getD_some]
    refine ⟨?_, ?_, hG.2.1, hG.2.2.1⟩
    · rw [Nat.zero_add, ho.cellAt _ (by omega), e0]
    · rw [Nat.zero_add, ho.cellAt _ (by omega), e1, ← hG.1]

end Go.Proofs.YtnnnlalhhhhaeaaDoor
