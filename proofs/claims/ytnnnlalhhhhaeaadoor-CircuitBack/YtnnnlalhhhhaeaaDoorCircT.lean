/-
  Contracts of strconv.Itoa (numbers of one or two digits), of package circuit's printLine and gateWord; nothing that was there is written.
-/
import Derived.Test.YtnnnlalhhhhaeaaDoorCirc
import Derived.Test.YtnnnlalhhhhaeaaDoorShelf
import Derived.Deep.RegionHeld3
import Derived.Deep.RegionWith
import Derived.Deep.LoopGhost
import Derived.Deep.Light
import Derived.Deep.DrawnRows
import Derived.Deep.QuietTactic
namespace Go.Proofs.YtnnnlalhhhhaeaaDoor
open Go.RowKit
set_option linter.unusedVariables false
attribute [local go_sem ↓] Go.wp_at_zero Go.wp_at_succ

theorem digits_all : ((List.range 100).all fun i => decide (Lib.decDigits i = digsQ (i : Int)) && decide ((digsQ (i : Int)).length ≤ 2)) = true := by decide +kernel
theorem digits_is {n : Int} (h0 : 0 ≤ n) (h1 : n < 100) : Lib.decDigits n.toNat = digsQ n ∧ (digsQ n).length ≤ 2 := by
  have := List.all_eq_true.1 digits_all n.toNat (List.mem_range.2 (by omega))
  rw [show ((n.toNat : Nat) : Int) = n from by omega] at this
  simpa using this
/-- A number's text. -/
theorem itoa_any (n : Int) (w : World) (h0 : 0 ≤ n) (h1 : n < 100) : Calls Tryd.prog 26 #[.int .i64 n] w fun e w' => ∃ t : ByteArray, e = .returned (.string t) ∧ t.data.toList = digsQ n ∧ t.size ≤ 2 ∧ w' = w := by
  obtain ⟨i, rfl⟩ : ∃ i : Nat, n = (i : Int) := ⟨n.toNat, by omega⟩
  obtain ⟨e1, e2⟩ := digits_is h0 h1
  rw [Int.toNat_natCast] at e1
  refine (Tryd.strconv_Itoa_small i (by omega) w).mono fun e w' ⟨he, hw⟩ => ⟨⟨(Lib.decDigits i).toArray⟩, he, ?_, ?_, hw⟩
  · rw [e1]
  · rw [e1]; exact e2
def digB (n : Int) : ByteArray := ⟨(digsQ n).toArray⟩
theorem digB_data (n : Int) : (digB n).data.toList = digsQ n := rfl
theorem digB_size {n : Int} (h0 : 0 ≤ n) (h1 : n < 100) : (digB n).size ≤ 2 := (digits_is h0 h1).2
theorem itoa_at (n : Int) (w : World) (h0 : 0 ≤ n) (h1 : n < 100) : Calls Tryd.prog 26 #[.int .i64 n] w fun e w' => e = .returned (.string (digB n)) ∧ w' = w := by
  obtain ⟨i, rfl⟩ : ∃ i : Nat, n = (i : Int) := ⟨n.toNat, by omega⟩
  obtain ⟨e1, e2⟩ := digits_is h0 h1
  rw [Int.toNat_natCast] at e1
  rw [digB, ← e1]
  exact Tryd.strconv_Itoa_small i (by omega) w
/-- k numbers of Go's int lie in block b from place o on. -/
def IRowT (w : World) (b o n : Nat) (f : Nat → Int) : Prop := ∀ j, j < n → w.cell? ⟨b, o + j, none⟩ = some (.int .i64 (f j))
/-- Numbers, each with a blank ahead. -/
def numsT (f : Nat → Int) : Nat → List UInt8
  | 0 => []
  | k + 1 => numsT f k ++ 32 :: digsQ (f k)
theorem data_cat (a b : ByteArray) : (a ++ b).data.toList = a.data.toList ++ b.data.toList := by simp [ByteArray.data_append]

set_option maxHeartbeats 1000000 in
set_option maxRecDepth 100000 in
theorem pline_any (wd : ByteArray) (b off k cap : Nat) (f : Nat → Int) (w : World) (hk : k ≤ 2) (hwd : wd.size ≤ 10) (hr : IRowT w b off k f) (hf : ∀ j, j < k → 0 ≤ f j ∧ f j < 100) :
    Calls Tryd.prog 18 #[.string wd, .slice (some ⟨b, off, none⟩) k cap] w fun e w' => ∃ t : ByteArray, e = .returned (.string t) ∧ t.data.toList = wd.data.toList ++ numsT f k ++ [10] ∧ t.size ≤ 17 ∧ w' = w := by
  have HR := hid hr
  have HF := hid hf
  clear hr hf
  go_enter Tryd.func18, Tryd.ntmps18
  go_wp2_with fail
  go_loopg [5, 11] k (fun q s i wr => ∃ (t : Nat) (T : ByteArray), t ≤ k ∧ q = k - t ∧ s = .string T ∧ i = .int .i64 (t : Int) ∧ wr = w ∧ Hid (T.data.toList = wd.data.toList ++ numsT f t) ∧ T.size ≤ 10 + 3 * t)
  case atStart => exact ⟨0, wd, by omega, rfl, rfl, rfl, rfl, hid (by simp [numsT]), by omega⟩
  case round =>
    obtain ⟨t, T, ht, rfl, rfl, rfl, hw, HT, ts⟩ := hrel
    obtain rfl := hw.symm
    by_cases htk : t < k
    · have c1 := HR.out t htk
      obtain ⟨x, hx⟩ : ∃ x, f t = x := ⟨_, rfl⟩
      obtain ⟨x0, x1⟩ := HF.out t htk
      rw [hx] at c1 x0 x1
      have HX := hid hx
      have t0 : (0 : Int) ≤ (t : Int) := by omega
      have t1 : (t : Int) < (k : Int) := by omega
      clear hx
      go_wp2_with fail
      refine (itoa_any x w x0 x1).mono ?_
      rintro e w' ⟨d, rfl, hd, ds, hw⟩
      obtain rfl := hw.symm
      have HD := hid hd
      clear hd
      go_wp2_with fail
      go_roundg (k - (t + 1))
      case measure => go_light; omega
      case rel => exact ⟨t + 1, _, by omega, rfl, rfl, by go_num, rfl, hid (by rw [data_cat, data_cat, HT.out, HD.out, numsT, HX.out, List.append_assoc]; rfl), by simp only [ByteArray.size_append]; have : (ByteArray.mk #[32]).size = 1 := rfl; omega⟩
    · have e : t = k := by omega
      subst e
      go_wp2_with fail
      go_ret
      exact ⟨_, rfl, by rw [data_cat, HT.out, List.append_assoc], by simp only [ByteArray.size_append]; have : (ByteArray.mk #[10]).size = 1 := rfl; omega, rfl⟩
/-- A gate's first word. -/
def gword (m : Bool) : ByteArray := if m then ⟨#[109, 117, 108]⟩ else ⟨#[97, 100, 100]⟩
theorem gword_size (m : Bool) : (gword m).size = 3 := by cases m <;> rfl
theorem gword_data (m : Bool) : (gword m).data.toList = if m then wMul else wAdd := by cases m <;> rfl
set_option maxHeartbeats 400000 in
theorem gword_any (m : Bool) (a b : Int) (w : World) :
    Calls Tryd.prog 19 #[.agg #[.bool m, .int .i64 a, .int .i64 b]] w fun e w' => e = .returned (.string (gword m)) ∧ Below w.heap.size w w' := by
  cases m with
  | true =>
    go_enter Tryd.func19, Tryd.ntmps19
    go_wp2_with fail
    go_ret
    exact ⟨rfl, (Below.refl _ w).alloc (Nat.le_refl _) _⟩
  | false =>
    go_enter Tryd.func19, Tryd.ntmps19
    go_wp2_with fail
    go_ret
    exact ⟨rfl, (Below.refl _ w).alloc (Nat.le_refl _) _⟩

/-- The text of the inputs and of the first k layers. -/
def txtQ (c : CQ) (k : Nat) : List UInt8 := printT (Ln.inputs c.log :: layersT (c.layers.take k))
/-- The text of a layer and of its first t gates. -/
def txtL (l : LQ) (t : Nat) : List UInt8 := printT (Ln.layer l.log :: gatesT (l.gates.take t))
theorem printT_cat (a b : List Ln) : printT (a ++ b) = printT a ++ printT b := by simp [printT]
theorem printT_one (x : Ln) : printT [x] = lineT x ++ [10] := by simp [printT]
theorem txtQ_next {c : CQ} {k : Nat} {l : LQ} (h : c.layers[k]? = some l) : txtQ c k ++ txtL l l.gates.length = txtQ c (k + 1) := by
  have ht : c.layers.take (k + 1) = c.layers.take k ++ [l] := by rw [List.take_add_one, h]; rfl
  unfold txtQ txtL
  rw [ht, List.take_length, ← printT_cat]
  simp [layersT]
theorem txtL_next {l : LQ} {t : Nat} {x : GQ} (h : l.gates[t]? = some x) : txtL l (t + 1) = txtL l t ++ (lineT (Ln.gate x) ++ [10]) := by
  have ht : l.gates.take (t + 1) = l.gates.take t ++ [x] := by rw [List.take_add_one, h]; rfl
  unfold txtL
  rw [ht, ← printT_one, ← printT_cat]
  simp [gatesT]
theorem txtL_zero (l : LQ) : txtL l 0 = wLayer ++ 32 :: digsQ l.log ++ [10] := by simp [txtL, gatesT, printT, lineT]
theorem txtQ_zero (c : CQ) : txtQ c 0 = wInputs ++ 32 :: digsQ c.log ++ [10] := by simp [txtQ, layersT, printT, lineT]
theorem txtQ_all (c : CQ) : txtQ c c.layers.length = printQ c := by simp [txtQ, printQ, linesT]

end Go.Proofs.YtnnnlalhhhhaeaaDoor
