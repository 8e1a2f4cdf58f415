/-
  What UniValues asks of values and sums of polynomials (plain).
-/
import Derived.Test.YtoogpkcpheannadChecked
import Derived.Test.YtoogpkcpheannadUni
import Derived.Test.YtoogpkcpheannadOwn
import Derived.Test.YtoogpkcpheannadClone
import Derived.WalkKit
import Derived.Deep.AppendLies
import Derived.Lib.SliceRun
namespace Go.Proofs.Ytoogpkcpheannad
open Go.RowKit
set_option linter.unusedVariables false

theorem at_self (v : Nat → Int) (n i : Nat) (hi : i < n) (hn : n ≤ 1000) : atQ v n (i : Int) = nrm (v i) := by
  obtain ⟨f, hf, e1, e2⟩ := at_poly v n (by omega)
  refine kk_eq_nrm (atQ_rng v n _).1 (atQ_rng v n _).2 ?_
  rw [e2]; exact e1 i hi
theorem at_add (v u s : Nat → Int) (n : Nat) (x : Int) (hn : n ≤ 1000) (hs : ∀ j, j < n → s j = addQ (v j) (u j)) : atQ s n x = addQ (atQ v n x) (atQ u n x) := by
  obtain ⟨f, hf, e1, e2⟩ := at_poly v n (by omega)
  obtain ⟨g, hg, d1, d2⟩ := at_poly u n (by omega)
  have h := at_only s n (by omega) (hf.add hg) (fun i hi => by rw [hs i hi, kk_addQ, e1 i hi, d1 i hi]) x
  refine kk_inj (atQ_rng _ n _).1 (atQ_rng _ n _).2 (addQ_rng _ _).1 (addQ_rng _ _).2 ?_
  rw [h, kk_addQ, e2, d2]
theorem at_next (v u : Nat → Int) (n : Nat) (x : Int) (hn : n ≤ 1000) (h1 : ∀ j, j < n → u j = v j) (h2 : u n = atQ v n (n : Int)) : atQ u (n + 1) x = atQ v n x := by
  obtain ⟨f, hf, e1, e2⟩ := at_poly v n (by omega)
  have h := at_only u (n + 1) (by omega) (hf.mono (Nat.le_succ n)) (fun i hi => by
    by_cases e : i = n
    · subst e; rw [h2, e2]; rfl
    · rw [h1 i (by omega)]; exact e1 i (by omega)) x
  exact kk_inj (atQ_rng _ _ _).1 (atQ_rng _ _ _).2 (atQ_rng _ _ _).1 (atQ_rng _ _ _).2 (by rw [h, e2])
def oneTwoFive (j : Nat) : Int := if j = 0 then 1 else if j = 1 then 2 else 5
theorem Nums_oneTwoFive : Nums oneTwoFive := fun j => by
  unfold oneTwoFive
  split
  · omega
  · split <;> omega
theorem at_ten : atQ oneTwoFive 3 3 = 10 := by
  have hp : IsP 3 (fun x => 1 + x * (0 + x * 1)) := ⟨[1, 0, 1], by simp, fun x => by simp only [ev]; grind⟩
  have h := at_only oneTwoFive 3 (by omega) hp (fun i hi => by
    match i, hi with
    | 0, _ => rfl
    | 1, _ => rfl
    | 2, _ => rfl) 3
  exact kk_inj (atQ_rng _ _ _).1 (atQ_rng _ _ _).2 (by omega) (by omega) (by rw [h]; rfl)
theorem Nums_atQ {v : Nat → Int} (hv : Nums v) (n : Nat) (x : Int) : Nums (fun j => if j < n then v j else atQ v n x) := fun j => by
  dsimp only
  have h1 := hv j
  have h2 := atQ_rng v n x
  split <;> omega

theorem sum_step (v u : Nat → Int) (t j : Nat) : (if j = t then addQ (v t) (u t) else if j < t then addQ (v j) (u j) else 0) = if j < t + 1 then addQ (v j) (u j) else 0 := by
  by_cases e : j = t
  · subst e; rw [if_pos rfl, if_pos (by omega)]
  · rw [if_neg e]
    by_cases h : j < t
    · rw [if_pos h, if_pos (by omega)]
    · rw [if_neg h, if_neg (by omega)]
theorem Nums_sum (v u : Nat → Int) (k : Nat) : Nums (fun j => if j < k then addQ (v j) (u j) else 0) := fun j => by
  dsimp only
  have h := addQ_rng (v j) (u j)
  split <;> omega

/-- At's contract, told from a world ahead. -/
theorem at_on (b off n cap : Nat) (v : Nat → Int) (x : Int) (w w' : World) (hn1 : 1 ≤ n) (hn8 : n ≤ 8) (hr : Row w b off n v) (hv : Nums v) (x0 : 0 ≤ x) (x1 : x ≤ 18446744073709551615) (hb : Below w.heap.size w w') :
    Calls Try.prog 11 #[.slice (some ⟨b, off, none⟩) n cap, .int .u64 x] w' fun e w'' => e = .returned (.tuple #[.int .u64 (atQ v n x), .int .i64 0]) ∧ Below w.heap.size w w'' :=
  (at_ok b off n cap v x w' hn1 hn8 (hr.kept hb (hr.lt (by omega))) hv x0 x1).mono fun e w'' h => ⟨h.1, hb.trans (h.2.mono hb.size)⟩
theorem lit_at (w : World) : Calls Try.prog 11 #[.slice (some ⟨w.heap.size, 0, none⟩) 3 3, .int .u64 3] (w.alloc (.cells #[.int .u64 1, .int .u64 2, .int .u64 5] 22)) fun e w' => e = .returned (.tuple #[.int .u64 10, .int .i64 0]) ∧ Below w.heap.size w w' := by
  have hr : Row (w.alloc (.cells #[.int .u64 1, .int .u64 2, .int .u64 5] 22)) w.heap.size 0 3 oneTwoFive := by
    intro j hj
    rw [Nat.zero_add, World.cell?_alloc_new]
    match j, hj with
    | 0, _ => rfl
    | 1, _ => rfl
    | 2, _ => rfl
  have h := at_ok w.heap.size 0 3 3 oneTwoFive 3 _ (by omega) (by omega) hr Nums_oneTwoFive (by omega) (by omega)
  rw [at_ten] at h
  refine h.mono fun e w' h2 => ⟨h2.1, ?_⟩
  exact ((Below.refl _ w).alloc (Nat.le_refl _) _).trans (h2.2.mono (by simp))

end Go.Proofs.Ytoogpkcpheannad
