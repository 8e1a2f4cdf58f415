/-
  Contracts of tallyref's Rest, and of tallykeep's table and point: a new row with a list's first numbers, the rest 0; nothing that was there is written.
-/
import Derived.Test.YtbchbmelofojkaaGreatDoorChecked
import Derived.Test.YtbchbmelofojkaaGreatDoorOwn
import Derived.WalkKit
import Derived.Laws.CopyOwn
import Derived.MapKept
import Derived.Deep.OwnRows
import Derived.Deep.DrawnRows
namespace Go.Proofs.YtbchbmelofojkaaGreatDoor
open Go.RowKit
set_option linter.unusedVariables false

set_option maxHeartbeats 1000000 in
theorem rest_any (n m : Int) (w : World) (n0 : -9223372036854775808 ≤ n) (n1 : n ≤ 9223372036854775807) (m0 : 1 ≤ m) (m1 : m ≤ 4611686018427387904) :
    Calls Tryz.prog 9 #[.int .i64 n, .int .i64 m] w fun e w' => e = .returned (.int .i64 (n % m)) ∧ w' = w := by
  have hm : (m == 0) = false := beq_eq_false_iff_ne.2 (by omega)
  have hlo : 0 ≤ n % m := Int.emod_nonneg n (by omega)
  have hhi : n % m < m := Int.emod_lt_of_pos n (by omega)
  by_cases h : n.tmod m < 0
  · have e : n % m = n.tmod m + m := by
      rw [Int.tmod_eq_emod] at h ⊢
      split at h
      · omega
      · rw [if_neg (by assumption)]; omega
    have w1 : IntKind.i64.wrap (n.tmod m + m) = n % m := by rw [← e]; exact IntWalk.i64_in _ (by omega)
    have w2 : wrap64 (n.tmod m + m) = n % m := by rw [← e]; exact IntWalk.wrap64_in _ (by omega)
    clear e
    go_enter Tryz.func9, Tryz.ntmps9
    go_wp2
    go_ret
    exact ⟨rfl, rfl⟩
  · have e : n % m = n.tmod m := by
      rw [Int.tmod_eq_emod] at h ⊢
      split at h
      · rw [if_pos (by assumption)]; omega
      · omega
    have HE := hid e
    clear e
    go_enter Tryz.func9, Tryz.ntmps9
    go_wp2
    go_ret
    exact ⟨by rw [HE.out]; rfl, rfl⟩

/-- A list's first n numbers, 0 behind them. -/
def padF (n : Nat) (f : Nat → Int) (j : Nat) : Int := if j < n then f j else 0
theorem Nums_pad {f : Nat → Int} (hf : Nums f) (n : Nat) : Nums (padF n f) := fun j => by
  unfold padF
  split
  · exact hf j
  · omega
theorem made_zero (n : Nat) : madeCells #[.int .u64 0] n = (cellsOf n (fun _ => 0)).toArray := by
  apply Array.ext_getElem?
  intro j
  by_cases h : j < n
  · simp [madeCells, cellsOf, h, Nat.mod_one]
  · simp [madeCells, cellsOf, h]
theorem splice_pad (n m : Nat) (f : Nat → Int) (h : m ≤ n) : splice (cellsOf n (fun _ => 0)) 0 (cellsOf m f) = cellsOf n (padF m f) := by
  unfold splice
  rw [List.take_zero, List.nil_append, Nat.zero_add, cellsOf_len]
  apply List.ext_getElem?
  intro j
  by_cases h1 : j < m
  · rw [List.getElem?_append_left (by rw [cellsOf_len]; exact h1), cellsOf_at m f j h1, cellsOf_at n _ j (by omega), padF, if_pos h1]
  · rw [List.getElem?_append_right (by rw [cellsOf_len]; omega), cellsOf_len, List.getElem?_drop, show m + (j - m) = j from by omega]
    by_cases h2 : j < n
    · rw [cellsOf_at n _ j h2, cellsOf_at n _ j h2, padF, if_neg h1]
    · rw [cellsOf_past n _ j (by omega), cellsOf_past n _ j (by omega)]
theorem made_of_heap {w w' : World} {n : Nat} {f : Nat → Int} {t : TypeId} (hb : Below w.heap.size w w') (hh : w'.heap[w.heap.size]? = some (.cells (cellsOf n f).toArray t (0, 0))) : Made w w' n f := by
  refine ⟨hb, fun j hj => ?_, fun j hj => ?_⟩
  · unfold World.cell?
    simp [hh, cellsOf_at n f j hj]
  · unfold World.frozen?
    simp [hh]

theorem sizeN : (Tryz.prog.info? 31).map (·.size) = some 1 := by kernel_rfl
theorem pad_min (la n : Nat) (f : Nat → Int) (j : Nat) (hj : j < n) : padF (Nat.min la n) f j = padF la f j := by
  have e : Nat.min la n = min la n := rfl
  unfold padF
  rw [e]
  by_cases h : j < la
  · rw [if_pos (by omega), if_pos h]
  · rw [if_neg (by omega), if_neg h]
theorem src_cells {w : World} {ao : Option Addr} {la m : Nat} {f : Nat → Int} (hp : PRow w ao la f) (hm : m ≤ la) (h0 : 0 < (cellsOf m f).length) : ∃ ad, ao = some ad ∧ ∀ j v, (cellsOf m f)[j]? = some v → w.cell? (ad.add j) = some v := by
  rw [cellsOf_len] at h0
  obtain ⟨b, off, rfl, hr⟩ := hp (by omega)
  exact ⟨_, rfl, row_cells fun j hj => hr j (by omega)⟩

set_option maxHeartbeats 1000000 in
set_option maxRecDepth 100000 in
theorem point_any (ao : Option Addr) (la ca n : Nat) (f : Nat → Int) (w : World) (hn : n ≤ 1000) (hp : PRow w ao la f) :
    Calls Tryz.prog 11 #[.slice ao la ca, .int .i64 (n : Int)] w fun e w' => e = .returned (.slice (some ⟨w.heap.size, 0, none⟩) n n) ∧ Made w w' n (padF la f) := by
  have HP := hid (hp.kept (w' := w.alloc (.cells (madeCells #[.int .u64 0] n) 31)) ((Below.refl _ w).alloc (Nat.le_refl _) _))
  have HB := hid ((Below.refl w.heap.size w).alloc (Nat.le_refl _) (.cells (madeCells #[.int .u64 0] n) 31))
  have HH : Hid ((w.alloc (.cells (madeCells #[.int .u64 0] n) 31)).heap[w.heap.size]? = some (.cells (cellsOf n (fun _ => 0)).toArray 31 (0, 0))) := hid (by rw [made_zero]; exact (MapKept.heap_alloc _ _).1)
  have hmk := run_make_row' (P := Tryz.prog) 22 31 (.int .u64 0) 8 Tryz.underlying22 Tryz.infoO rfl .i64 .i64 n (by omega) (by omega)
  clear hp
  go_enter Tryz.func11, Tryz.ntmps11
  go_wp2_with (with_reducible (show wpList _ _ _ ({ dst := _, op := Op.call { callee := Callee.builtin Builtin.copy, args := _, argTypes := _ }, type := _, pos := _, after := _, guard := _ } :: _) _ _); refine wpList_copy_splice rfl _ _ 22 22 rfl 31 Tryz.underlying22 sizeN _ _ _ _ _ _ rfl rfl w.heap.size 0 (cellsOf n (fun _ => 0)) 31 HH.out (cellsOf (Nat.min la n) f) ?q1 ?q2 ?q3 ?q4 w.heap.size w HB.out (Nat.le_refl _) ?_)
  case q1 => exact cellsOf_len _ _
  case q2 => exact fun h0 => src_cells HP.out (Nat.min_le_left _ _) h0
  case q3 => rw [cellsOf_len, cellsOf_len]; have : Nat.min la n ≤ n := Nat.min_le_right _ _; omega
  case q4 => exact cellsOf_one _ _
  intro w1 hh hb
  have HM := hid ((made_of_heap hb (by rw [← splice_pad n (Nat.min la n) f (Nat.min_le_right _ _)]; exact hh.out)).congr fun j hj => pad_min la n f j hj)
  clear hh hb hmk
  go_wp2_with fail
  go_ret
  exact ⟨rfl, HM.out⟩

set_option maxHeartbeats 1000000 in
set_option maxRecDepth 100000 in
theorem sized_any (ao : Option Addr) (la ca n : Nat) (f : Nat → Int) (w : World) (hn : n ≤ 1000) (hp : PRow w ao la f) :
    Calls Tryz.prog 29 #[.slice ao la ca, .int .i64 (n : Int)] w fun e w' => e = .returned (.slice (some ⟨w.heap.size, 0, none⟩) n n) ∧ Made w w' n (padF la f) := by
  have HP := hid (hp.kept (w' := w.alloc (.cells (madeCells #[.int .u64 0] n) 31)) ((Below.refl _ w).alloc (Nat.le_refl _) _))
  have HB := hid ((Below.refl w.heap.size w).alloc (Nat.le_refl _) (.cells (madeCells #[.int .u64 0] n) 31))
  have HH : Hid ((w.alloc (.cells (madeCells #[.int .u64 0] n) 31)).heap[w.heap.size]? = some (.cells (cellsOf n (fun _ => 0)).toArray 31 (0, 0))) := hid (by rw [made_zero]; exact (MapKept.heap_alloc _ _).1)
  have hmk := run_make_row' (P := Tryz.prog) 22 31 (.int .u64 0) 8 Tryz.underlying22 Tryz.infoO rfl .i64 .i64 n (by omega) (by omega)
  clear hp
  go_enter Tryz.func29, Tryz.ntmps29
  go_wp2_with (with_reducible (show wpList _ _ _ ({ dst := _, op := Op.call { callee := Callee.builtin Builtin.copy, args := _, argTypes := _ }, type := _, pos := _, after := _, guard := _ } :: _) _ _); refine wpList_copy_splice rfl _ _ 22 22 rfl 31 Tryz.underlying22 sizeN _ _ _ _ _ _ rfl rfl w.heap.size 0 (cellsOf n (fun _ => 0)) 31 HH.out (cellsOf (Nat.min la n) f) ?q1 ?q2 ?q3 ?q4 w.heap.size w HB.out (Nat.le_refl _) ?_)
  case q1 => exact cellsOf_len _ _
  case q2 => exact fun h0 => src_cells HP.out (Nat.min_le_left _ _) h0
  case q3 => rw [cellsOf_len, cellsOf_len]; have : Nat.min la n ≤ n := Nat.min_le_right _ _; omega
  case q4 => exact cellsOf_one _ _
  intro w1 hh hb
  have HM := hid ((made_of_heap hb (by rw [← splice_pad n (Nat.min la n) f (Nat.min_le_right _ _)]; exact hh.out)).congr fun j hj => pad_min la n f j hj)
  clear hh hb hmk
  go_wp2_with fail
  go_ret
  exact ⟨rfl, HM.out⟩

theorem shl_two {r : Nat} (hr : r ≤ 8) : wrap64 ((2 : Int) ^ r) = ((2 ^ r : Nat) : Int) := by
  have h : 2 ^ r ≤ 256 := Nat.pow_le_pow_right (j := 8) (by omega) hr
  rw [show ((2 : Int) ^ r) = ((2 ^ r : Nat) : Int) from by simp]
  generalize 2 ^ r = M at h
  exact IntWalk.wrap64_in _ (by omega)
set_option maxHeartbeats 1000000 in
set_option maxRecDepth 100000 in
theorem table_any (ao : Option Addr) (la ca : Nat) (k : Int) (r N : Nat) (f : Nat → Int) (w : World) (k0 : -9223372036854775808 ≤ k) (k1 : k ≤ 9223372036854775807) (hr : k % 5 = (r : Int)) (hN : N = 2 ^ r) (hp : PRow w ao la f) :
    Calls Tryz.prog 8 #[.slice ao la ca, .int .i64 k] w fun e w' => e = .returned (.slice (some ⟨w.heap.size, 0, none⟩) N N) ∧ Made w w' N (padF la f) := by
  have hr4 : r ≤ 4 := by omega
  have hN2 : N ≤ 256 := by rw [hN]; exact Nat.pow_le_pow_right (j := 8) (by omega) (by omega)
  have hs := shl_two (r := r) (by omega)
  rw [← hN] at hs
  have HRE := hid (rest_any k 5 w k0 k1 (by omega) (by omega))
  rw [hr] at HRE
  have HP := hid (hp.kept (w' := w.alloc (.cells (madeCells #[.int .u64 0] N) 31)) ((Below.refl _ w).alloc (Nat.le_refl _) _))
  have HB := hid ((Below.refl w.heap.size w).alloc (Nat.le_refl _) (.cells (madeCells #[.int .u64 0] N) 31))
  have HH : Hid ((w.alloc (.cells (madeCells #[.int .u64 0] N) 31)).heap[w.heap.size]? = some (.cells (cellsOf N (fun _ => 0)).toArray 31 (0, 0))) := hid (by rw [made_zero]; exact (MapKept.heap_alloc _ _).1)
  have hmk := run_make_row' (P := Tryz.prog) 22 31 (.int .u64 0) 8 Tryz.underlying22 Tryz.infoO rfl .i64 .i64 N (by omega) (by omega)
  clear hp hN hr
  go_enter Tryz.func8, Tryz.ntmps8
  go_wp2_with (first
    | (go_at_call 9; refine (HRE.out).mono ?_; rintro e w' ⟨rfl, hw⟩; obtain rfl := hw.symm)
    | (with_reducible (show wpList _ _ _ ({ dst := _, op := Op.call { callee := Callee.builtin Builtin.copy, args := _, argTypes := _ }, type := _, pos := _, after := _, guard := _ } :: _) _ _); refine wpList_copy_splice rfl _ _ 22 22 rfl 31 Tryz.underlying22 sizeN _ _ _ _ _ _ rfl rfl w.heap.size 0 (cellsOf N (fun _ => 0)) 31 HH.out (cellsOf (Nat.min la N) f) ?q1 ?q2 ?q3 ?q4 w.heap.size w HB.out (Nat.le_refl _) ?_))
  case q1 => exact cellsOf_len _ _
  case q2 => exact fun h0 => src_cells HP.out (Nat.min_le_left _ _) h0
  case q3 => rw [cellsOf_len, cellsOf_len]; have : Nat.min la N ≤ N := Nat.min_le_right _ _; omega
  case q4 => exact cellsOf_one _ _
  intro w1 hh hb
  have HM := hid ((made_of_heap hb (by rw [← splice_pad N (Nat.min la N) f (Nat.min_le_right _ _)]; exact hh.out)).congr fun j hj => pad_min la N f j hj)
  clear hh hb hmk hs
  go_wp2_with fail
  go_ret
  exact ⟨rfl, HM.out⟩

end Go.Proofs.YtbchbmelofojkaaGreatDoor
