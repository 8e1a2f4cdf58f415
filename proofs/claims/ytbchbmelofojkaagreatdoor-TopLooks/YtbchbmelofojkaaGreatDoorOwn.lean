/-
  Rows of numbers that a call itself makes and appends to: what append leaves, what stays; and a list that may have none. The one closed fact in it is the row of Go's uint64 in the program's table.
-/
import Derived.Test.YtbchbmelofojkaaGreatDoorChecked
import Derived.Test.YtbchbmelofojkaaGreatDoorMem
import Derived.WalkKit
import Derived.Deep.AppendLies
import Derived.Lib.SliceRun
import Derived.Deep.Upon
import Derived.Deep.AppendSrc
namespace Go.Proofs.YtbchbmelofojkaaGreatDoor
open Go.RowKit
set_option linter.unusedVariables false

theorem Tryz.infoO : (Tryz.prog.info? 31).map (fun i => (i.zero, i.size, i.bytes)) = some (some (.int .u64 0), 1, 8) := by kernel_rfl
/-- The numbers as the cells of a row. -/
def cellsOf (n : Nat) (f : Nat → Int) : List Value := (List.range n).map fun j => Value.int .u64 (f j)
theorem cellsOf_len (n : Nat) (f : Nat → Int) : (cellsOf n f).length = n := by simp [cellsOf]
theorem cellsOf_at (n : Nat) (f : Nat → Int) (j : Nat) (h : j < n) : (cellsOf n f)[j]? = some (.int .u64 (f j)) := by simp [cellsOf, h]
theorem cellsOf_past (n : Nat) (f : Nat → Int) (j : Nat) (h : n ≤ j) : (cellsOf n f)[j]? = none := by simp [cellsOf, h]
theorem cellsOf_one (n : Nat) (f : Nat → Int) : ∀ u ∈ cellsOf n f, u.oneCell' = true := by
  intro u hu
  simp only [cellsOf, List.mem_map] at hu
  obtain ⟨j, _, rfl⟩ := hu
  rfl
theorem row_cells {w : World} {b o n : Nat} {f : Nat → Int} (h : Row w b o n f) : ∀ j u, (cellsOf n f)[j]? = some u → w.cell? ((⟨b, o, none⟩ : Addr).add j) = some u := by
  intro j u hu
  by_cases hj : j < n
  · rw [cellsOf_at n f j hj] at hu
    have := h j hj
    rw [← hu, Addr.add_lit]
    exact this
  · rw [cellsOf_past n f j (by omega)] at hu
    cases hu
theorem row_own {w : World} {base g n cap : Nat} {e : TypeId} {f : Nat → Int} (h : w.ownsRow base e 1 (.slice (some ⟨g, 0, none⟩) n cap) n (cellsOf n f)) : Row w g 0 n f := fun j hj => by
  rw [Nat.zero_add, h.cellAt j (by omega), cellsOf_at n f j hj]
theorem row_own_next {w : World} {base g n cap : Nat} {e : TypeId} {f : Nat → Int} {x : Int} (h : w.ownsRow base e 1 (.slice (some ⟨g, 0, none⟩) (n + 1) cap) (n + 1) (cellsOf n f ++ [.int .u64 x])) : Row w g 0 (n + 1) (fun j => if j < n then f j else x) := fun j hj => by
  dsimp only
  rw [Nat.zero_add, h.cellAt j (by omega)]
  by_cases e : j < n
  · rw [List.getElem?_append_left (by rw [cellsOf_len]; exact e), cellsOf_at n f j e, if_pos e]
  · have e2 : j = n := by omega
    subst e2
    rw [List.getElem?_append_right (by rw [cellsOf_len]; exact Nat.le_refl _), cellsOf_len, if_neg e]
    simp


theorem cellsOf_congr {n : Nat} {f g : Nat → Int} (h : ∀ j, j < n → f j = g j) : cellsOf n f = cellsOf n g := by
  unfold cellsOf
  exact List.map_congr_left fun j hj => by rw [h j (List.mem_range.1 hj)]
/-- One list behind the other. -/
def catF (n : Nat) (f g : Nat → Int) (j : Nat) : Int := if j < n then f j else g (j - n)
theorem cellsOf_cat (n m : Nat) (f g : Nat → Int) : cellsOf n f ++ cellsOf m g = cellsOf (n + m) (catF n f g) := by
  apply List.ext_getElem?
  intro j
  by_cases h : j < n
  · rw [List.getElem?_append_left (by rw [cellsOf_len]; exact h), cellsOf_at n f j h, cellsOf_at _ _ j (by omega), catF, if_pos h]
  · rw [List.getElem?_append_right (by rw [cellsOf_len]; omega), cellsOf_len]
    by_cases h2 : j - n < m
    · rw [cellsOf_at m g _ h2, cellsOf_at _ _ j (by omega), catF, if_neg h]
    · rw [cellsOf_past m g _ (by omega), cellsOf_past _ _ j (by omega)]
theorem cellsOf_snoc (n : Nat) (f : Nat → Int) (y : Int) : cellsOf n f ++ [.int .u64 y] = cellsOf (n + 1) (catF n f (fun _ => y)) := by
  rw [← cellsOf_cat]; rfl
theorem cellsOf_zero (f : Nat → Int) : cellsOf 0 f = [] := rfl

/-- The numbers of a list that may have none. -/
def PRow (w : World) (ao : Option Addr) (n : Nat) (g : Nat → Int) : Prop := 0 < n → ∃ b off, ao = some ⟨b, off, none⟩ ∧ Row w b off n g
theorem PRow.kept {w w' : World} {ao : Option Addr} {n : Nat} {g : Nat → Int} (h : PRow w ao n g) (hb : Below w.heap.size w w') : PRow w' ao n g := fun hn => by
  obtain ⟨b, off, e, hr⟩ := h hn
  exact ⟨b, off, e, hr.kept hb (hr.lt hn)⟩
theorem PRow.drew {w : World} {ao : Option Addr} {n : Nat} {g : Nat → Int} (h : PRow w ao n g) : PRow w.drew ao n g := h
theorem PRow.of {w : World} {b off n : Nat} {g : Nat → Int} (h : Row w b off n g) : PRow w (some ⟨b, off, none⟩) n g := fun _ => ⟨b, off, rfl, h⟩
theorem PRow.congr {w : World} {ao : Option Addr} {n : Nat} {f g : Nat → Int} (h : PRow w ao n f) (e : ∀ j, j < n → f j = g j) : PRow w ao n g := fun hn => by
  obtain ⟨b, off, e1, hr⟩ := h hn
  exact ⟨b, off, e1, hr.congr e⟩

/-- v is a list of the call's own, n numbers. -/
def Own (w : World) (base : Nat) (v : Value) (n : Nat) (f : Nat → Int) : Prop := w.ownsRow base 31 1 v n (cellsOf n f)
theorem Own.nil (w : World) (base : Nat) (f : Nat → Int) : Own w base (.slice none 0 0) 0 f := World.ownsRow_nil w base 31 1
theorem Own.is {w : World} {base : Nat} {v : Value} {n : Nat} {f : Nat → Int} (h : Own w base v n f) : ∃ ao c, v = .slice ao n c ∧ PRow w ao n f ∧ (n = 0 → (ao = none ∧ c = 0) ∨ ∃ g, ao = some ⟨g, 0, none⟩) := by
  rcases h.2 with ⟨rfl, rfl⟩ | ⟨g, cap, cur, rfl, _⟩
  · exact ⟨none, 0, rfl, fun h0 => by omega, fun _ => .inl ⟨rfl, rfl⟩⟩
  · exact ⟨some ⟨g, 0, none⟩, cap, rfl, fun _ => ⟨g, 0, rfl, row_own h⟩, fun _ => .inr ⟨g, rfl⟩⟩
theorem Own.kept {w w' : World} {base : Nat} {v : Value} {n : Nat} {f : Nat → Int} (h : Own w base v n f) (hb : Below w.heap.size w w') : Own w' base v n f := by
  refine ⟨h.1, ?_⟩
  rcases h.2 with h2 | ⟨g, cap, cur, hv, hg, hh, r⟩
  · exact .inl h2
  · have hlt : g < w.heap.size := by
      by_cases hl : g < w.heap.size
      · exact hl
      · rw [Array.getElem?_eq_none (by omega)] at hh; cases hh
    exact .inr ⟨g, cap, cur, hv, hg, (hb.block g hlt).trans hh, r⟩
theorem Own.drew {w : World} {base : Nat} {v : Value} {n : Nat} {f : Nat → Int} (h : Own w base v n f) : Own w.drew base v n f := h
theorem Own.congr {w : World} {base : Nat} {v : Value} {n : Nat} {f g : Nat → Int} (h : Own w base v n f) (e : ∀ j, j < n → f j = g j) : Own w base v n g := by
  unfold Own; rw [← cellsOf_congr e]; exact h

/-- append of a list that has none, nil or not. -/
theorem wpList_append_empty {P : Program} (w : World) {ops : Array Oper} {rest : List Oper} {o : Oper} {a : Act} {Q : Exit → Act → World → Prop}
    (hg : o.guard = none) (s x : Operand) (t : TypeId) (hop : o.op = Op.call { callee := Callee.builtin Builtin.append, args := #[s, x], argTypes := #[t, t] })
    (base : Nat) (e : TypeId) (i : TypeInfo) (size : Nat) (h1 : P.underlying t = some (.slice e)) (h2 : P.info? e = some i)
    (v : Value) (k : Nat) (xs : List Value) (hs : a.eval s = v) (hown : w.ownsRow base e size v k xs) (ao : Option Addr) (c : Nat) (hx : a.eval x = .slice ao 0 c)
    (hK : wpList P ops Q rest (a.put o.dst v) w) :
    wpList P ops Q (o :: rest) a w := by
  refine wpList_plain hg fun K hK' => ?_
  have hsrc : Src P i.size t (.slice ao 0 c) 0 [] w := by
    cases ao with
    | none => exact Src.ofNil w h1 c
    | some ad => exact Src.ofSlice w h1 ad 0 c [] (by simp) (by simp) (by simp)
  have hrun : (Builtin.append_ #[t, t] o.type #[v, .slice ao 0 c]).run P w = .ok v w := by
    rcases hown.2 with ⟨rfl, _⟩ | ⟨g, cap, cur, rfl, _, _, hle, _⟩
    · exact run_append_nothing w t t o.type e i h1 h2 none 0 0 (Nat.le_refl _) _ hsrc
    · exact run_append_nothing w t t o.type e i h1 h2 _ k cap hle _ hsrc
  unfold Oper.wp
  simp [execOp, hop, resolve, invoke, builtin, hs, hx, hrun, Result.andThen]
  exact hK' _ _ hK

end Go.Proofs.YtbchbmelofojkaaGreatDoor
