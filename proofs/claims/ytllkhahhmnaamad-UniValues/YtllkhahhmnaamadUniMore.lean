/-
  What UniValues asks of values and sums of polynomials (plain), and a contract of slices.Clone at numbers of 64 bits: a new row with the same numbers; nothing that was there is written.
-/
import Derived.Test.YtllkhahhmnaamadChecked
import Derived.Test.YtllkhahhmnaamadUni
import Derived.WalkKit
import Derived.Deep.AppendLies
import Derived.Lib.SliceRun
namespace Go.Proofs.Ytllkhahhmnaamad
open Go.RowKit
set_option linter.unusedVariables false

theorem at_self (v : Nat → Int) (n i : Nat) (hi : i < n) (hn : n ≤ 1000) : atQ v n (i : Int) = nrm (v i) := by
  obtain ⟨f, hf, e1, e2⟩ := at_poly v n (by omega)
  refine kk_eq_nrm (atQ_rng v n _).1 (atQ_rng v n _).2 ?_
  rw [e2]; exact e1 i hi
theorem at_add (v u s : Nat → Int) (n : Nat) (x : Int) (hn : n ≤ 1000) (hs : ∀ j, j < n → s j = addQ (v j) (u j)) : atQ s n x = addQ (atQ v n x) (atQ u n x) := by
  obtain ⟨f, hf, e1, e2⟩ := at_poly v n (by omega)
  obtain ⟨g, hg, d1, d2⟩ := at_poly u n (by omega)
  have h := at_only s n (by omega) (hf.add hg) (fun i hi => by rw [hs i hi, kk_addQ, e1 i hi, d1 i hi]) x
  refine kk_inj (atQ_rng _ n _).1 (atQ_rng _ n _).2 (addQ_rng _ _).1 (addQ_rng _ _).2 ?_
  rw [h, kk_addQ, e2, d2]
theorem at_next (v u : Nat → Int) (n : Nat) (x : Int) (hn : n ≤ 1000) (h1 : ∀ j, j < n → u j = v j) (h2 : u n = atQ v n (n : Int)) : atQ u (n + 1) x = atQ v n x := by
  obtain ⟨f, hf, e1, e2⟩ := at_poly v n (by omega)
  have h := at_only u (n + 1) (by omega) (hf.mono (Nat.le_succ n)) (fun i hi => by
    by_cases e : i = n
    · subst e; rw [h2, e2]; rfl
    · rw [h1 i (by omega)]; exact e1 i (by omega)) x
  exact kk_inj (atQ_rng _ _ _).1 (atQ_rng _ _ _).2 (atQ_rng _ _ _).1 (atQ_rng _ _ _).2 (by rw [h, e2])
def oneTwoFive (j : Nat) : Int := if j = 0 then 1 else if j = 1 then 2 else 5
theorem Nums_oneTwoFive : Nums oneTwoFive := fun j => by
  unfold oneTwoFive
  split
  · omega
  · split <;> omega
theorem at_ten : atQ oneTwoFive 3 3 = 10 := by
  have hp : IsP 3 (fun x => 1 + x * (0 + x * 1)) := ⟨[1, 0, 1], by simp, fun x => by simp only [ev]; grind⟩
  have h := at_only oneTwoFive 3 (by omega) hp (fun i hi => by
    match i, hi with
    | 0, _ => rfl
    | 1, _ => rfl
    | 2, _ => rfl) 3
  exact kk_inj (atQ_rng _ _ _).1 (atQ_rng _ _ _).2 (by omega) (by omega) (by rw [h]; rfl)
theorem Nums_atQ {v : Nat → Int} (hv : Nums v) (n : Nat) (x : Int) : Nums (fun j => if j < n then v j else atQ v n x) := fun j => by
  dsimp only
  have h1 := hv j
  have h2 := atQ_rng v n x
  split <;> omega

theorem sum_step (v u : Nat → Int) (t j : Nat) : (if j = t then addQ (v t) (u t) else if j < t then addQ (v j) (u j) else 0) = if j < t + 1 then addQ (v j) (u j) else 0 := by
  by_cases e : j = t
  · subst e; rw [if_pos rfl, if_pos (by omega)]
  · rw [if_neg e]
    by_cases h : j < t
    · rw [if_pos h, if_pos (by omega)]
    · rw [if_neg h, if_neg (by omega)]
theorem Nums_sum (v u : Nat → Int) (k : Nat) : Nums (fun j => if j < k then addQ (v j) (u j) else 0) := fun j => by
  dsimp only
  have h := addQ_rng (v j) (u j)
  split <;> omega

/-- At's contract, told from a world ahead. -/
theorem at_on (b off n cap : Nat) (v : Nat → Int) (x : Int) (w w' : World) (hn1 : 1 ≤ n) (hn8 : n ≤ 8) (hr : Row w b off n v) (hv : Nums v) (x0 : 0 ≤ x) (x1 : x ≤ 18446744073709551615) (hb : Below w.heap.size w w') :
    Calls Try.prog 11 #[.slice (some ⟨b, off, none⟩) n cap, .int .u64 x] w' fun e w'' => e = .returned (.tuple #[.int .u64 (atQ v n x), .int .i64 0]) ∧ Below w.heap.size w w'' :=
  (at_ok b off n cap v x w' hn1 hn8 (hr.kept hb (hr.lt (by omega))) hv x0 x1).mono fun e w'' h => ⟨h.1, hb.trans (h.2.mono hb.size)⟩
theorem lit_at (w : World) : Calls Try.prog 11 #[.slice (some ⟨w.heap.size, 0, none⟩) 3 3, .int .u64 3] (w.alloc (.cells #[.int .u64 1, .int .u64 2, .int .u64 5] 22)) fun e w' => e = .returned (.tuple #[.int .u64 10, .int .i64 0]) ∧ Below w.heap.size w w' := by
  have hr : Row (w.alloc (.cells #[.int .u64 1, .int .u64 2, .int .u64 5] 22)) w.heap.size 0 3 oneTwoFive := by
    intro j hj
    rw [Nat.zero_add, World.cell?_alloc_new]
    match j, hj with
    | 0, _ => rfl
    | 1, _ => rfl
    | 2, _ => rfl
  have h := at_ok w.heap.size 0 3 3 oneTwoFive 3 _ (by omega) (by omega) hr Nums_oneTwoFive (by omega) (by omega)
  rw [at_ten] at h
  refine h.mono fun e w' h2 => ⟨h2.1, ?_⟩
  exact ((Below.refl _ w).alloc (Nat.le_refl _) _).trans (h2.2.mono (by simp))

/-- The numbers as the cells of a row. -/
def cellsOf (n : Nat) (f : Nat → Int) : List Value := (List.range n).map fun j => Value.int .u64 (f j)
theorem cellsOf_len (n : Nat) (f : Nat → Int) : (cellsOf n f).length = n := by simp [cellsOf]
theorem cellsOf_at (n : Nat) (f : Nat → Int) (j : Nat) (h : j < n) : (cellsOf n f)[j]? = some (.int .u64 (f j)) := by simp [cellsOf, h]
theorem cellsOf_past (n : Nat) (f : Nat → Int) (j : Nat) (h : n ≤ j) : (cellsOf n f)[j]? = none := by simp [cellsOf, h]
theorem cellsOf_one (n : Nat) (f : Nat → Int) : ∀ u ∈ cellsOf n f, u.oneCell' = true := by
  intro u hu
  simp only [cellsOf, List.mem_map] at hu
  obtain ⟨j, _, rfl⟩ := hu
  rfl
theorem row_cells {w : World} {b o n : Nat} {f : Nat → Int} (h : Row w b o n f) : ∀ j u, (cellsOf n f)[j]? = some u → w.cell? ((⟨b, o, none⟩ : Addr).add j) = some u := by
  intro j u hu
  by_cases hj : j < n
  · rw [cellsOf_at n f j hj] at hu
    have := h j hj
    rw [← hu, Addr.add_lit]
    exact this
  · rw [cellsOf_past n f j (by omega)] at hu
    cases hu
theorem row_own {w : World} {base g n cap : Nat} {e : TypeId} {f : Nat → Int} (h : w.ownsRow base e 1 (.slice (some ⟨g, 0, none⟩) n cap) n (cellsOf n f)) : Row w g 0 n f := fun j hj => by
  rw [Nat.zero_add, h.cellAt j (by omega), cellsOf_at n f j hj]
theorem row_own_next {w : World} {base g n cap : Nat} {e : TypeId} {f : Nat → Int} {x : Int} (h : w.ownsRow base e 1 (.slice (some ⟨g, 0, none⟩) (n + 1) cap) (n + 1) (cellsOf n f ++ [.int .u64 x])) : Row w g 0 (n + 1) (fun j => if j < n then f j else x) := fun j hj => by
  dsimp only
  rw [Nat.zero_add, h.cellAt j (by omega)]
  by_cases e : j < n
  · rw [List.getElem?_append_left (by rw [cellsOf_len]; exact e), cellsOf_at n f j e, if_pos e]
  · have e2 : j = n := by omega
    subst e2
    rw [List.getElem?_append_right (by rw [cellsOf_len]; exact Nat.le_refl _), cellsOf_len, if_neg e]
    simp

set_option maxHeartbeats 1000000 in
theorem clone_any (b off n cap : Nat) (f : Nat → Int) (w : World) (hn1 : 1 ≤ n) (hn : n ≤ 1000) (hr : Row w b off n f) :
    Calls Try.prog 13 #[.slice (some ⟨b, off, none⟩) n cap] w fun e w' => ∃ g c, e = .returned (.slice (some ⟨g, 0, none⟩) n c) ∧ w'.ownsRow w.heap.size 22 1 (.slice (some ⟨g, 0, none⟩) n c) n (cellsOf n f) ∧ Below w.heap.size w w' := by
  have HR := hid hr
  have HB := hid (hr.lt (by omega))
  clear hr
  obtain ⟨i0, hi, hz0, hz1, hz2⟩ := info_parts Try.infoU
  go_enter Try.func13, Try.ntmps13
  have hq : ∀ (w : World) (a : Option Addr) (n c n' c' : Nat), (binOp .eql 30 (.slice a n c) (.slice none n' c')).run Try.prog w = .ok (.bool a.isNone) w := fun w a n c n' c' => Lib.run_eql_slice_nil w _ _ a n c n' c' Try.underlying30
  go_wp2_with (at_builtin; refine wpList_append_lies _ rfl _ _ 30 rfl w.heap.size 22 i0 (.int .u64 0) 1 8 Try.underlying30 hi hz0 hz1 hz2 rfl (by decide) _ _ _ rfl (World.ownsRow_made w #[] 0 (Nat.le_refl _) (Nat.zero_le _) rfl) ⟨b, off, none⟩ n cap (cellsOf n f) rfl ?qc1 ?qc2 ?qc3 ?qc4 ?qc5 ?qc6 ?qc7 (w.heap.size + 1) ?qc8 ?_)
  case qc1 => rw [cellsOf_len]; omega
  case qc2 =>
    refine row_cells fun j hj => ?_
    rw [World.cell?_alloc_lt _ _ _ HB.out]
    exact HR.out j hj
  case qc3 => exact cellsOf_one n f
  case qc4 => omega
  case qc5 => unfold maxLen; omega
  case qc6 => omega
  case qc7 => simp
  case qc8 => simp
  intro g c w1 hown hgrow hat hlt
  have HO := hid hown
  have HG := hid hgrow
  clear hown hgrow hat hlt
  go_wp2
  go_ret
  refine ⟨g, c, rfl, HO.out, ?_⟩
  exact ((Below.refl _ w).alloc (Nat.le_refl _) _).grown HG.out (by simp) (by intro k hk; simp [Value.ownBlock] at hk; omega)

end Go.Proofs.Ytllkhahhmnaamad
