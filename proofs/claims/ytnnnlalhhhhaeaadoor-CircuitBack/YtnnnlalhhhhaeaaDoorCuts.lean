/-
  Plain: a text's pieces by the library's words (split, cut), and a text that is cut line by line; no program in it.
-/
import Derived.Test.YtnnnlalhhhhaeaaDoorText
import Derived.Lib.SplitLaws
namespace Go.Proofs.YtnnnlalhhhhaeaaDoor
set_option linter.unusedVariables false

theorem split_pieces (c : UInt8) : ∀ s : List UInt8, Lib.splitK [c] 0 (Lib.count s [c]) s = piecesL c s
  | [] => by
    have h : Lib.count [] [c] = 0 := by rw [Lib.count_one]; rfl
    rw [h]; rfl
  | b :: l => by
    have ih := split_pieces c l
    by_cases h : b = c
    · subst h
      have hix : Lib.index (b :: l) [b] = 0 := by rw [Lib.index]; simp [List.isPrefixOf]
      rw [Lib.count_cons_eq, Nat.add_comm, Lib.splitK, hix, piecesL, if_pos rfl, ← ih]
      simp
    · rw [Lib.count_cons_ne b c l h, piecesL, if_neg h, ← ih]
      have hp : ([c] : List UInt8).isPrefixOf (b :: l) = false := by simp [List.isPrefixOf, Ne.symm h]
      have hix : Lib.index (b :: l) [c] = if Lib.index l [c] == -1 then -1 else Lib.index l [c] + 1 := by rw [Lib.index, hp]; simp
      by_cases hm : Lib.index l [c] = -1
      · rw [Lib.count_miss hm]; rfl
      · have hge := Lib.index_ge l [c]
        obtain ⟨j, hj⟩ : ∃ j : Nat, Lib.index l [c] = j := ⟨(Lib.index l [c]).toNat, by omega⟩
        have hix' : Lib.index (b :: l) [c] = ((j + 1 : Nat) : Int) := by rw [hix, if_neg (fun e => hm (beq_iff_eq.1 e)), hj]; omega
        have n1 : ¬ ((((j + 1 : Nat) : Int) == -1) = true) := fun e => by have := beq_iff_eq.1 e; omega
        have n2 : ¬ ((((j : Nat) : Int) == -1) = true) := fun e => by have := beq_iff_eq.1 e; omega
        obtain ⟨k, hk⟩ : ∃ k, Lib.count l [c] = k + 1 := ⟨Lib.count (l.drop (j + 1)) [c], by rw [Lib.count_hit (by simp) hj]; simp [Nat.add_comm]⟩
        rw [hk, Lib.splitK, Lib.splitK, hix', hj, if_neg n1, if_neg n2]
        simp
/-- What the library's Split answers, of one byte. -/
theorem splitB_pieces (c : UInt8) (s : ByteArray) : (Lib.splitB ⟨#[c]⟩ 0 (Lib.countB s ⟨#[c]⟩) s).map (·.data.toList) = piecesL c s.data.toList := by
  rw [Lib.splitB_data]
  exact split_pieces c s.data.toList
theorem splitB_count (c : UInt8) (s : ByteArray) : (Lib.splitB ⟨#[c]⟩ 0 (Lib.countB s ⟨#[c]⟩) s).length = Lib.countB s ⟨#[c]⟩ + 1 :=
  Lib.splitB_all ⟨#[c]⟩ (Nat.le_refl 1) 0 _ s rfl

/-- A text cut at the first byte of one sort. -/
def cutL (b : UInt8) : List UInt8 → Option (List UInt8 × List UInt8)
  | [] => none
  | x :: r => if x = b then some ([], r) else (cutL b r).map fun q => (x :: q.1, q.2)
theorem cut_cutL (b : UInt8) : ∀ s : List UInt8, Lib.cut s [b] = match cutL b s with | some q => (q.1, q.2, true) | none => (s, [], false)
  | [] => by simp [Lib.cut, Lib.index, cutL]
  | x :: r => by
    have ih := cut_cutL b r
    by_cases h : x = b
    · subst h
      have hix : Lib.index (x :: r) [x] = 0 := by rw [Lib.index]; simp [List.isPrefixOf]
      simp [Lib.cut, hix, cutL]
    · have hp : ([b] : List UInt8).isPrefixOf (x :: r) = false := by simp [List.isPrefixOf, Ne.symm h]
      have hix : Lib.index (x :: r) [b] = if Lib.index r [b] == -1 then -1 else Lib.index r [b] + 1 := by rw [Lib.index, hp]; simp
      have hge := Lib.index_ge r [b]
      rw [cutL, if_neg h]
      by_cases hm : Lib.index r [b] = -1
      · have hix2 : Lib.index (x :: r) [b] = -1 := by rw [hix, if_pos (beq_iff_eq.2 hm)]
        rw [Lib.cut, hm] at ih
        cases hc : cutL b r with
        | none => simp [Lib.cut, hix2]
        | some q => rw [hc] at ih; simp at ih
      · obtain ⟨j, hj⟩ : ∃ j : Nat, Lib.index r [b] = j := ⟨(Lib.index r [b]).toNat, by omega⟩
        have hix2 : Lib.index (x :: r) [b] = ((j + 1 : Nat) : Int) := by rw [hix, if_neg (fun e => hm (beq_iff_eq.1 e)), hj]; omega
        rw [Lib.cut, hj, if_pos (by omega)] at ih
        cases hc : cutL b r with
        | none => rw [hc] at ih; simp at ih
        | some q =>
          rw [hc] at ih
          simp at ih
          rw [Lib.cut, hix2, if_pos (by omega)]
          simp [← ih.1, ← ih.2]
theorem pieces_cut {b : UInt8} {s p r : List UInt8} (h : cutL b s = some (p, r)) : piecesL b s = p :: piecesL b r := by
  induction s generalizing p r with
  | nil => simp [cutL] at h
  | cons x s ih =>
    rw [cutL] at h
    rw [piecesL]
    by_cases e : x = b
    · rw [if_pos e] at h ⊢
      simp at h
      obtain ⟨rfl, rfl⟩ := h
      rfl
    · rw [if_neg e] at h ⊢
      cases hc : cutL b s with
      | none => rw [hc] at h; simp at h
      | some q =>
        rw [hc] at h
        simp at h
        obtain ⟨rfl, rfl⟩ := h
        rw [ih (p := q.1) (r := q.2) hc]
theorem pieces_uncut {b : UInt8} {s : List UInt8} (h : cutL b s = none) : piecesL b s = [s] := by
  induction s with
  | nil => rfl
  | cons x s ih =>
    rw [cutL] at h
    rw [piecesL]
    by_cases e : x = b
    · rw [if_pos e] at h; simp at h
    · rw [if_neg e] at h ⊢
      cases hc : cutL b s with
      | none => rw [ih hc]
      | some q => rw [hc] at h; simp at h
theorem cut_length {b : UInt8} {s p r : List UInt8} (h : cutL b s = some (p, r)) : p.length + r.length + 1 = s.length := by
  induction s generalizing p r with
  | nil => simp [cutL] at h
  | cons x s ih =>
    rw [cutL] at h
    by_cases e : x = b
    · rw [if_pos e] at h
      simp at h
      obtain ⟨rfl, rfl⟩ := h
      simp
    · rw [if_neg e] at h
      cases hc : cutL b s with
      | none => rw [hc] at h; simp at h
      | some q =>
        rw [hc] at h
        simp at h
        obtain ⟨rfl, rfl⟩ := h
        have := ih (p := q.1) (r := q.2) hc
        simp
        omega

/-- The lines from line i on (from 0), of what is left of a text. -/
def textFrom (i : Nat) (c : CQ) (s : List UInt8) : Except Nat CQ :=
  if (piecesL 10 s).getLast (piecesL_ne 10 s) = [] ∧ (0 < i ∨ 1 < (piecesL 10 s).length) then linesQ i c (piecesL 10 s).dropLast
  else match linesQ i c (piecesL 10 s).dropLast with
    | .ok _ => .error (i + (piecesL 10 s).length)
    | .error n => .error n
theorem textFrom_all (s : List UInt8) : textFrom 0 ⟨0, []⟩ s = textQ s := by
  unfold textFrom textQ
  simp only [Nat.lt_irrefl, false_or, Nat.zero_add]
  rfl
theorem textFrom_last {i : Nat} {c : CQ} {s : List UInt8} (h : cutL 10 s = none) (hi : i = 0 ∨ s ≠ []) : textFrom i c s = .error (i + 1) := by
  have hp := pieces_uncut h
  unfold textFrom
  simp only [hp, List.getLast_singleton, List.length_singleton, Nat.lt_irrefl, or_false, List.dropLast_singleton, linesQ]
  rw [if_neg]
  rintro ⟨h1, h2⟩
  rcases hi with hi | hi
  · omega
  · exact hi h1
theorem textFrom_end (i : Nat) (c : CQ) (hi : 0 < i) : textFrom i c [] = .ok c := by
  unfold textFrom
  simp only [piecesL, List.getLast_singleton, List.length_singleton, List.dropLast_singleton, linesQ]
  rw [if_pos (by simp [hi])]
theorem textFrom_line {i : Nat} {c : CQ} {s p r : List UInt8} (h : cutL 10 s = some (p, r)) : textFrom i c s = match (lineQ p).bind (stepQ i c) with | some c' => textFrom (i + 1) c' r | none => .error (i + 1) := by
  have hp := pieces_cut h
  have hne := piecesL_ne 10 r
  unfold textFrom
  simp only [hp]
  rw [List.getLast_cons hne, List.dropLast_cons_of_ne_nil hne]
  simp only [linesQ, List.length_cons]
  have hlen : 0 < (piecesL 10 r).length := List.length_pos_iff.2 hne
  cases hs : (lineQ p).bind (stepQ i c) with
  | none =>
    split <;> rfl
  | some c' =>
    dsimp only
    by_cases hl : (piecesL 10 r).getLast hne = []
    · rw [if_pos ⟨hl, .inr (by omega)⟩, if_pos ⟨hl, .inl (by omega)⟩]
    · rw [if_neg (fun h => hl h.1), if_neg (fun h => hl h.1)]
      rw [show i + ((piecesL 10 r).length + 1) = i + 1 + (piecesL 10 r).length from by omega]

end Go.Proofs.YtnnnlalhhhhaeaaDoor
