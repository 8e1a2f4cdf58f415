/-
  Plain: circuits and their texts: what is read line by line, what is printed; what is printed is read as it was, what is read is printed as it stood; no program in it.
-/
import Derived.Test.YtbchbmelofojkaaGreatDoorOps
namespace Go.Proofs.YtbchbmelofojkaaGreatDoor
set_option linter.unusedVariables false

/-- A gate: does it multiply; its two inputs. -/
structure GQ where
  mul : Bool
  a : Int
  b : Int
structure LQ where
  log : Int
  gates : List GQ
structure CQ where
  log : Int
  layers : List LQ

/-- The pieces of a text between bytes of one sort. -/
def piecesL (b : UInt8) : List UInt8 → List (List UInt8)
  | [] => [[]]
  | x :: r => if x = b then [] :: piecesL b r else match piecesL b r with
    | [] => [[x]]
    | p :: q => (x :: p) :: q
theorem piecesL_ne (b : UInt8) (s : List UInt8) : piecesL b s ≠ [] := by
  cases s with
  | nil => simp [piecesL]
  | cons x r =>
    rw [piecesL]
    split
    · simp
    · split <;> simp
/-- One piece, without the byte, and the rest behind it. -/
theorem piecesL_cat (b : UInt8) (p r : List UInt8) (h : b ∉ p) : piecesL b (p ++ b :: r) = p :: piecesL b r := by
  induction p with
  | nil => simp [piecesL]
  | cons x p ih =>
    simp at h
    rw [List.cons_append, piecesL, if_neg (fun e => h.1 e.symm), ih h.2]
theorem piecesL_one (b : UInt8) (p : List UInt8) (h : b ∉ p) : piecesL b p = [p] := by
  induction p with
  | nil => rfl
  | cons x p ih =>
    simp at h
    rw [piecesL, if_neg (fun e => h.1 e.symm), ih h.2]
/-- The pieces put together again. -/
def joinL (b : UInt8) : List (List UInt8) → List UInt8
  | [] => []
  | [p] => p
  | p :: q :: r => p ++ b :: joinL b (q :: r)
theorem joinL_cons (b : UInt8) (p : List UInt8) (l : List (List UInt8)) (h : l ≠ []) : joinL b (p :: l) = p ++ b :: joinL b l := by
  cases l with
  | nil => exact absurd rfl h
  | cons q r => rfl
theorem join_pieces (b : UInt8) (s : List UInt8) : joinL b (piecesL b s) = s := by
  induction s with
  | nil => rfl
  | cons x r ih =>
    rw [piecesL]
    by_cases e : x = b
    · rw [if_pos e, joinL_cons _ _ _ (piecesL_ne b r), ih, e]; rfl
    · rw [if_neg e]
      cases h : piecesL b r with
      | nil => exact absurd h (piecesL_ne b r)
      | cons p q =>
        rw [h] at ih
        cases q with
        | nil => simp [joinL] at ih ⊢; exact ih
        | cons q1 q2 => rw [joinL_cons _ _ _ (by simp)] at ih ⊢; rw [← ih]; rfl
theorem pieces_free (b : UInt8) (s : List UInt8) : ∀ p, p ∈ piecesL b s → b ∉ p := by
  induction s with
  | nil => intro p hp; simp [piecesL] at hp; subst hp; simp
  | cons x r ih =>
    intro p hp
    rw [piecesL] at hp
    by_cases e : x = b
    · rw [if_pos e] at hp
      rcases List.mem_cons.1 hp with rfl | hp
      · simp
      · exact ih p hp
    · rw [if_neg e] at hp
      cases h : piecesL b r with
      | nil => exact absurd h (piecesL_ne b r)
      | cons q1 q2 =>
        rw [h] at hp ih
        rcases List.mem_cons.1 hp with rfl | hp
        · have := ih q1 (by simp)
          simp
          exact ⟨fun e2 => e e2.symm, this⟩
        · exact ih p (by simp [hp])
theorem piecesL_last (b : UInt8) (s : List UInt8) : ∃ q p, piecesL b s = q ++ [p] :=
  ⟨_, _, (List.dropLast_concat_getLast (piecesL_ne b s)).symm⟩
/-- One byte more: the last piece grows, or a new one begins. -/
theorem piecesL_snoc (b x : UInt8) (s : List UInt8) : ∀ {q : List (List UInt8)} {p : List UInt8}, piecesL b s = q ++ [p] → piecesL b (s ++ [x]) = if x = b then q ++ [p] ++ [[]] else q ++ [p ++ [x]] := by
  induction s with
  | nil =>
    intro q p h
    obtain ⟨rfl, rfl⟩ : q = [] ∧ p = [] := by
      cases q with
      | nil => simp [piecesL] at h; exact ⟨rfl, h⟩
      | cons a t => simp [piecesL] at h
    by_cases e : x = b
    · simp [piecesL, e]
    · simp [piecesL, e]
  | cons y r ih =>
    intro q p h
    obtain ⟨q', p', h'⟩ := piecesL_last b r
    have ih' := ih h'
    rw [List.cons_append, piecesL, ih']
    rw [piecesL, h'] at h
    by_cases e2 : y = b
    · rw [if_pos e2] at h ⊢
      rw [← List.cons_append] at h
      obtain ⟨e3, e4⟩ := List.append_inj' h rfl
      injection e4 with e4
      subst e3
      subst e4
      by_cases e : x = b
      · rw [if_pos e, if_pos e]; rfl
      · rw [if_neg e, if_neg e]; rfl
    · rw [if_neg e2] at h ⊢
      cases q' with
      | nil =>
        obtain ⟨rfl, rfl⟩ : q = [] ∧ p = y :: p' := by
          cases q with
          | nil => simp at h; exact ⟨rfl, h.symm⟩
          | cons a t => simp at h
        by_cases e : x = b
        · rw [if_pos e, if_pos e]; rfl
        · rw [if_neg e, if_neg e]; rfl
      | cons a t =>
        have h2 : ((y :: a) :: t) ++ [p'] = q ++ [p] := h
        obtain ⟨e3, e4⟩ := List.append_inj' h2 rfl
        injection e4 with e4
        subst e3
        subst e4
        by_cases e : x = b
        · rw [if_pos e, if_pos e]; rfl
        · rw [if_neg e, if_neg e]; rfl

/-- Is it a digit; what it tells. -/
def digQ (d : UInt8) : Bool := 48 ≤ d && d ≤ 57
def valQ (d : UInt8) : Int := (d.toNat : Int) - 48
/-- A number of one or two digits, without noughts ahead. -/
def numQ : List UInt8 → Option Int
  | [d] => if digQ d then some (valQ d) else none
  | [d, e] => if digQ d && digQ e && d != 48 then some (valQ d * 10 + valQ e) else none
  | _ => none
/-- A number's digits. -/
def digsQ (n : Int) : List UInt8 := if n < 10 then [UInt8.ofNat (n.toNat + 48)] else [UInt8.ofNat (n.toNat / 10 + 48), UInt8.ofNat (n.toNat % 10 + 48)]
theorem digs_all : ((List.range 100).all fun n => numQ (digsQ (n : Int)) == some (n : Int) && !(digsQ (n : Int)).contains 32 && !(digsQ (n : Int)).contains 10) = true := by decide +kernel
theorem num_digs {n : Int} (h0 : 0 ≤ n) (h1 : n < 100) : numQ (digsQ n) = some n ∧ 32 ∉ digsQ n ∧ 10 ∉ digsQ n := by
  have := List.all_eq_true.1 digs_all n.toNat (List.mem_range.2 (by omega))
  rw [show ((n.toNat : Nat) : Int) = n from by omega] at this
  simp at this
  exact ⟨this.1.1, this.1.2, this.2⟩
theorem digs_num_all : ((List.range 256).all fun d => (match numQ [UInt8.ofNat d] with | some n => decide (digsQ n = [UInt8.ofNat d]) && decide (0 ≤ n) && decide (n < 100) | none => true)) = true := by decide +kernel
theorem digs_num_all2 : ((List.range 256).all fun d => !digQ (UInt8.ofNat d) || (List.range 256).all fun e => (match numQ [UInt8.ofNat d, UInt8.ofNat e] with | some n => decide (digsQ n = [UInt8.ofNat d, UInt8.ofNat e]) && decide (0 ≤ n) && decide (n < 100) | none => true)) = true := by decide +kernel
theorem byte_nat (d : UInt8) : UInt8.ofNat d.toNat = d := by simp
theorem digs_num {l : List UInt8} {n : Int} (h : numQ l = some n) : digsQ n = l ∧ 0 ≤ n ∧ n < 100 := by
  match l, h with
  | [], h => simp [numQ] at h
  | [d], h =>
    have := List.all_eq_true.1 digs_num_all d.toNat (List.mem_range.2 (by have := d.toNat_lt; omega))
    rw [byte_nat, h] at this
    simp at this
    exact ⟨this.1.1, this.1.2, this.2⟩
  | [d, e], h =>
    have h1 := List.all_eq_true.1 digs_num_all2 d.toNat (List.mem_range.2 (by have := d.toNat_lt; omega))
    rw [byte_nat] at h1
    have hd : digQ d = true := by
      cases hd : digQ d with
      | true => rfl
      | false => simp [numQ, hd] at h
    simp only [hd, Bool.not_true, Bool.false_or] at h1
    have := List.all_eq_true.1 h1 e.toNat (List.mem_range.2 (by have := e.toNat_lt; omega))
    rw [byte_nat, h] at this
    simp at this
    exact ⟨this.1.1, this.1.2, this.2⟩
  | _ :: _ :: _ :: _, h => simp [numQ] at h

/-- What a line tells. -/
abbrev Ln : Type := Int ⊕ Int ⊕ GQ
abbrev Ln.inputs (n : Int) : Ln := .inl n
abbrev Ln.layer (n : Int) : Ln := .inr (.inl n)
abbrev Ln.gate (g : GQ) : Ln := .inr (.inr g)
def wInputs : List UInt8 := [105, 110, 112, 117, 116, 115]
def wLayer : List UInt8 := [108, 97, 121, 101, 114]
def wAdd : List UInt8 := [97, 100, 100]
def wMul : List UInt8 := [109, 117, 108]
/-- A line, by its words. -/
def wordsQ : List (List UInt8) → Option Ln
  | [w, x] => match numQ x with
    | some n => if w = wInputs then some (Ln.inputs n) else if w = wLayer then some (Ln.layer n) else none
    | none => none
  | [w, x, y] => match numQ x, numQ y with
    | some n, some m => if w = wAdd then some (Ln.gate ⟨false, n, m⟩) else if w = wMul then some (Ln.gate ⟨true, n, m⟩) else none
    | _, _ => none
  | _ => none
def lineQ (l : List UInt8) : Option Ln := wordsQ (piecesL 32 l)
/-- A line as it is printed, without the byte 10 behind it. -/
def lineT : Ln → List UInt8
  | .inl n => wInputs ++ 32 :: digsQ n
  | .inr (.inl n) => wLayer ++ 32 :: digsQ n
  | .inr (.inr g) => (if g.mul then wMul else wAdd) ++ 32 :: (digsQ g.a ++ 32 :: digsQ g.b)
/-- Its numbers have one or two digits. -/
def Ln.fits : Ln → Prop
  | .inl n => 0 ≤ n ∧ n < 100
  | .inr (.inl n) => 0 ≤ n ∧ n < 100
  | .inr (.inr g) => (0 ≤ g.a ∧ g.a < 100) ∧ (0 ≤ g.b ∧ g.b < 100)
theorem line_read {l : Ln} (h : l.fits) : lineQ (lineT l) = some l := by
  rcases l with n | n | g
  · obtain ⟨e, f, _⟩ := num_digs h.1 h.2
    rw [lineQ, lineT, piecesL_cat _ _ _ (by decide), piecesL_one _ _ f]
    simp [wordsQ, e]
  · obtain ⟨e, f, _⟩ := num_digs h.1 h.2
    rw [lineQ, lineT, piecesL_cat _ _ _ (by decide), piecesL_one _ _ f]
    simp [wordsQ, e]
    decide
  · obtain ⟨m, a, b⟩ := g
    obtain ⟨e, f, _⟩ := num_digs h.1.1 h.1.2
    obtain ⟨e2, f2, _⟩ := num_digs h.2.1 h.2.2
    dsimp only at e f e2 f2
    cases m with
    | true =>
      rw [lineQ, lineT, piecesL_cat _ _ _ (by show 32 ∉ wMul; decide), piecesL_cat _ _ _ f, piecesL_one _ _ f2]
      simp [wordsQ, e, e2]
      decide
    | false =>
      rw [lineQ, lineT, piecesL_cat _ _ _ (by show 32 ∉ wAdd; decide), piecesL_cat _ _ _ f, piecesL_one _ _ f2]
      simp [wordsQ, e, e2]
theorem line_free {l : Ln} (h : l.fits) : 10 ∉ lineT l := by
  rcases l with n | n | g
  · obtain ⟨_, _, f⟩ := num_digs h.1 h.2
    rw [lineT]; simp [f]; decide
  · obtain ⟨_, _, f⟩ := num_digs h.1 h.2
    rw [lineT]; simp [f]; decide
  · obtain ⟨_, _, f⟩ := num_digs h.1.1 h.1.2
    obtain ⟨_, _, f2⟩ := num_digs h.2.1 h.2.2
    rw [lineT]; simp [f, f2]; split <;> decide
theorem line_back {s : List UInt8} {l : Ln} (h : lineQ s = some l) : lineT l = s ∧ l.fits := by
  have hj := join_pieces 32 s
  rw [lineQ] at h
  match hp : piecesL 32 s, h with
  | [], h => simp [wordsQ] at h
  | [w], h => simp [wordsQ] at h
  | [w, x], h =>
    rw [hp] at hj
    simp only [wordsQ] at h
    cases hx : numQ x with
    | none => rw [hx] at h; cases h
    | some n =>
      rw [hx] at h
      obtain ⟨e, b0, b1⟩ := digs_num hx
      dsimp only at h
      split at h
      · rename_i hw
        injection h with h
        subst h
        exact ⟨by rw [lineT, e, ← hw]; exact hj, b0, b1⟩
      · split at h
        · rename_i hw
          injection h with h
          subst h
          exact ⟨by rw [lineT, e, ← hw]; exact hj, b0, b1⟩
        · cases h
  | [w, x, y], h =>
    rw [hp] at hj
    simp only [wordsQ] at h
    cases hx : numQ x with
    | none => rw [hx] at h; cases h
    | some n =>
      cases hy : numQ y with
      | none => rw [hx, hy] at h; cases h
      | some m =>
        rw [hx, hy] at h
        obtain ⟨e, b0, b1⟩ := digs_num hx
        obtain ⟨e2, b2, b3⟩ := digs_num hy
        dsimp only at h
        split at h
        · rename_i hw
          injection h with h
          subst h
          exact ⟨by rw [lineT]; simp only [Bool.false_eq_true, if_false]; rw [e, e2, ← hw]; exact hj, ⟨b0, b1⟩, b2, b3⟩
        · split at h
          · rename_i hw
            injection h with h
            subst h
            exact ⟨by rw [lineT]; simp only [if_true]; rw [e, e2, ← hw]; exact hj, ⟨b0, b1⟩, b2, b3⟩
          · cases h
  | w :: x :: y :: z :: r, h => simp [wordsQ] at h

/-- One line more, the i-th from 0 on. -/
def gateTo : List LQ → GQ → List LQ
  | [], _ => []
  | [l], g => [⟨l.log, l.gates ++ [g]⟩]
  | l :: m :: r, g => l :: gateTo (m :: r) g
def stepQ (i : Nat) (c : CQ) : Ln → Option CQ
  | .inl n => if i = 0 then some ⟨n, c.layers⟩ else none
  | .inr (.inl n) => if i = 0 then none else some ⟨c.log, c.layers ++ [⟨n, []⟩]⟩
  | .inr (.inr g) => if c.layers = [] then none else some ⟨c.log, gateTo c.layers g⟩
/-- Line by line, from line i on: the circuit, or the line (from 1 on) that is none such. -/
def linesQ : Nat → CQ → List (List UInt8) → Except Nat CQ
  | _, c, [] => .ok c
  | i, c, l :: r => match (lineQ l).bind (stepQ i c) with
    | some c' => linesQ (i + 1) c' r
    | none => .error (i + 1)
/-- Of a text: all lines have a byte 10 behind them; the last piece, behind the last one, is empty. -/
def textQ (s : List UInt8) : Except Nat CQ :=
  let l := piecesL 10 s
  if l.getLast (piecesL_ne 10 s) = [] ∧ 1 < l.length then linesQ 0 ⟨0, []⟩ l.dropLast
  else match linesQ 0 ⟨0, []⟩ l.dropLast with
    | .ok _ => .error l.length
    | .error n => .error n

/-- A circuit's lines, and its text. -/
def gatesT (l : List GQ) : List Ln := l.map Ln.gate
def layersT (l : List LQ) : List Ln := l.flatMap fun x => Ln.layer x.log :: gatesT x.gates
def linesT (c : CQ) : List Ln := Ln.inputs c.log :: layersT c.layers
def printT (l : List Ln) : List UInt8 := l.flatMap fun x => lineT x ++ [10]
def printQ (c : CQ) : List UInt8 := printT (linesT c)

/-- The lines' steps alone. -/
def runQ : Nat → CQ → List Ln → Option CQ
  | _, c, [] => some c
  | i, c, l :: r => (stepQ i c l).bind fun c' => runQ (i + 1) c' r
theorem runQ_cat (i : Nat) (c : CQ) (l m : List Ln) : runQ i c (l ++ m) = (runQ i c l).bind fun c' => runQ (i + l.length) c' m := by
  induction l generalizing i c with
  | nil => rfl
  | cons x r ih =>
    rw [List.cons_append, runQ, runQ]
    cases stepQ i c x with
    | none => rfl
    | some c' =>
      show runQ (i + 1) c' (r ++ m) = _
      rw [ih, List.length_cons, show i + 1 + r.length = i + (r.length + 1) from by omega]
      rfl
theorem lines_run {i : Nat} {c c' : CQ} {l : List (List UInt8)} (h : linesQ i c l = .ok c') : ∃ m, l = m.map lineT ∧ (∀ x ∈ m, x.fits) ∧ runQ i c m = some c' := by
  induction l generalizing i c with
  | nil => rw [linesQ] at h; injection h with h; exact ⟨[], rfl, by simp, by rw [runQ, h]⟩
  | cons x r ih =>
    rw [linesQ] at h
    cases hx : lineQ x with
    | none => rw [hx] at h; cases h
    | some ln =>
      rw [hx] at h
      obtain ⟨e1, e2⟩ := line_back hx
      cases hs : stepQ i c ln with
      | none => simp [hs] at h
      | some c1 =>
        simp [hs] at h
        obtain ⟨m, e3, e4, e5⟩ := ih h
        refine ⟨ln :: m, by rw [e3, List.map_cons, e1], fun y hy => ?_, by rw [runQ, hs]; exact e5⟩
        rcases List.mem_cons.1 hy with rfl | hy
        · exact e2
        · exact e4 y hy
theorem run_lines {i : Nat} {c c' : CQ} {m : List Ln} (hf : ∀ x ∈ m, x.fits) (h : runQ i c m = some c') : linesQ i c (m.map lineT) = .ok c' := by
  induction m generalizing i c with
  | nil => rw [runQ] at h; injection h with h; rw [List.map_nil, linesQ, h]
  | cons x r ih =>
    rw [runQ] at h
    rw [List.map_cons, linesQ, line_read (hf x (by simp))]
    cases hs : stepQ i c x with
    | none => rw [hs] at h; cases h
    | some c1 =>
      rw [hs] at h
      simp [hs]
      exact ih (fun y hy => hf y (by simp [hy])) h
/-- A text of whole lines is its lines. -/
theorem pieces_print (l : List Ln) (hf : ∀ x ∈ l, x.fits) : piecesL 10 (printT l) = l.map lineT ++ [[]] := by
  induction l with
  | nil => rfl
  | cons x r ih =>
    rw [printT, List.flatMap_cons, List.append_assoc, List.singleton_append, piecesL_cat _ _ _ (line_free (hf x (by simp)))]
    rw [List.map_cons, List.cons_append, ← ih fun y hy => hf y (by simp [hy])]
    rfl
theorem join_print (l : List Ln) : joinL 10 (l.map lineT ++ [[]]) = printT l := by
  induction l with
  | nil => rfl
  | cons x r ih =>
    rw [List.map_cons, List.cons_append, joinL_cons _ _ _ (by simp), ih, printT, printT, List.flatMap_cons, List.append_assoc]
    rfl

/-- What the lines of a circuit leave. -/
theorem gateTo_snoc (p : List LQ) (l : LQ) (g : GQ) : gateTo (p ++ [l]) g = p ++ [⟨l.log, l.gates ++ [g]⟩] := by
  induction p with
  | nil => rfl
  | cons x p ih =>
    cases p with
    | nil => rfl
    | cons y p => rw [List.cons_append, List.cons_append, gateTo, ← List.cons_append, ih]; rfl
theorem run_gates (i : Nat) (n : Int) (p : List LQ) (k : Int) (gs hs : List GQ) : runQ i ⟨n, p ++ [⟨k, gs⟩]⟩ (gatesT hs) = some ⟨n, p ++ [⟨k, gs ++ hs⟩]⟩ := by
  induction hs generalizing i gs with
  | nil => simp [gatesT, runQ]
  | cons g r ih =>
    rw [gatesT, List.map_cons, runQ, stepQ, if_neg (by simp)]
    show runQ (i + 1) ⟨n, gateTo (p ++ [⟨k, gs⟩]) g⟩ (gatesT r) = _
    rw [gateTo_snoc, ih]
    simp
theorem run_layers (i : Nat) (hi : 0 < i) (n : Int) (p q : List LQ) : runQ i ⟨n, p⟩ (layersT q) = some ⟨n, p ++ q⟩ := by
  induction q generalizing i p with
  | nil => simp [layersT, runQ]
  | cons l r ih =>
    rw [layersT, List.flatMap_cons, List.cons_append, runQ, stepQ, if_neg (by omega)]
    show runQ (i + 1) ⟨n, p ++ [⟨l.log, []⟩]⟩ (gatesT l.gates ++ layersT r) = _
    rw [runQ_cat, run_gates]
    show runQ _ ⟨n, p ++ [⟨l.log, [] ++ l.gates⟩]⟩ (layersT r) = _
    rw [ih _ (by omega)]
    simp
theorem run_circuit (c : CQ) : runQ 0 ⟨0, []⟩ (linesT c) = some c := by
  rw [linesT, runQ, stepQ, if_pos rfl]
  show runQ 1 ⟨c.log, []⟩ (layersT c.layers) = _
  rw [run_layers 1 (by omega)]
  rfl
/-- The lines that lead to a circuit are its own. -/
theorem run_from {i : Nat} (hi : 0 < i) {c c' : CQ} {m : List Ln} (h : runQ i c m = some c') : layersT c.layers ++ m = layersT c'.layers ∧ c.log = c'.log := by
  induction m generalizing i c with
  | nil => rw [runQ] at h; injection h with h; subst h; simp
  | cons x r ih =>
    rw [runQ] at h
    rcases x with n | n | g
    · rw [stepQ, if_neg (by omega)] at h; cases h
    · rw [stepQ, if_neg (by omega)] at h
      obtain ⟨e1, e2⟩ := ih (by omega) h
      refine ⟨?_, e2⟩
      rw [← e1]
      simp [layersT, gatesT]
    · rw [stepQ] at h
      by_cases hl : c.layers = []
      · rw [if_pos hl] at h; cases h
      · rw [if_neg hl] at h
        obtain ⟨e1, e2⟩ := ih (by omega) h
        refine ⟨?_, e2⟩
        rw [← e1]
        dsimp only
        rw [← List.dropLast_concat_getLast hl, gateTo_snoc]
        simp [layersT, gatesT]
theorem lines_of_run {c : CQ} {m : List Ln} (h : runQ 0 ⟨0, []⟩ m = some c) (hm : m ≠ []) : m = linesT c := by
  cases m with
  | nil => exact absurd rfl hm
  | cons x r =>
    rw [runQ] at h
    rcases x with n | n | g
    · rw [stepQ, if_pos rfl] at h
      obtain ⟨e1, e2⟩ := run_from (i := 1) (by omega) h
      rw [linesT, ← e1, ← e2]
      rfl
    · rw [stepQ, if_pos rfl] at h; cases h
    · rw [stepQ, if_pos rfl] at h; cases h
/-- All its numbers have one or two digits. -/
def CQ.fits (c : CQ) : Prop := ∀ x ∈ linesT c, x.fits
/-- What is printed is read as it was. -/
theorem text_print (c : CQ) (h : c.fits) : textQ (printQ c) = .ok c := by
  unfold textQ
  dsimp only
  have e : piecesL 10 (printQ c) = (linesT c).map lineT ++ [[]] := pieces_print _ h
  have hlen : 1 < (piecesL 10 (printQ c)).length := by rw [e]; simp [linesT]
  have hlast : (piecesL 10 (printQ c)).getLast (piecesL_ne 10 _) = [] := by simp [e]
  rw [if_pos ⟨hlast, hlen⟩, e, List.dropLast_concat]
  exact run_lines h (run_circuit c)
/-- What is read is printed as it stood. -/
theorem print_text {s : List UInt8} {c : CQ} (h : textQ s = .ok c) : printQ c = s ∧ c.fits := by
  unfold textQ at h
  dsimp only at h
  split at h
  · rename_i hh
    obtain ⟨hl, hlen⟩ := hh
    obtain ⟨m, e1, e2, e3⟩ := lines_run h
    have hp : piecesL 10 s = m.map lineT ++ [[]] := by rw [← e1, ← hl, List.dropLast_concat_getLast]
    have hm : m ≠ [] := by
      intro e
      rw [hp, e] at hlen
      simp at hlen
    have he := lines_of_run e3 hm
    refine ⟨?_, by rw [CQ.fits, ← he]; exact e2⟩
    rw [printQ, ← he, ← join_print, ← hp, join_pieces]
  · split at h <;> cases h

end Go.Proofs.YtbchbmelofojkaaGreatDoor
