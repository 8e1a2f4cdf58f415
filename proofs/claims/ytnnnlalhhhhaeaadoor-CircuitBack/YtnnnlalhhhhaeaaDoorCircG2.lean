/-
  A contract of package circuit's readLine, for every line; what it makes is new, and it writes into the circuit alone that it was handed.
-/
import Derived.Test.YtnnnlalhhhhaeaaDoorCircG
namespace Go.Proofs.YtnnnlalhhhhaeaaDoor
open Go.RowKit Go.PlainAid
set_option linter.unusedVariables false
attribute [local go_sem ↓] Go.wp_at_zero Go.wp_at_succ

/-- The texts of a list, by their places. -/
def strF (P : List ByteArray) (j : Nat) : ByteArray := (P[j]?).getD ByteArray.empty
theorem srow_new (w : World) (P : List ByteArray) (t : TypeId) : SRow (w.alloc (.cells (P.map Value.string).toArray t)) w.heap.size 0 P.length (strF P) := fun j hj => by
  rw [Nat.zero_add, World.cell?_alloc_new]
  simp [strF, hj]
theorem SRow.kept {w w' : World} {b o n : Nat} {s : Nat → ByteArray} (h : SRow w b o n s) (hb : Below w.heap.size w w') (hl : b < w.heap.size) : SRow w' b o n s := fun j hj => (hb.cell hl).trans (h j hj)

theorem two_of {P : List ByteArray} (h : P.length = 2) : P = [strF P 0, strF P 1] := by
  match P, h with
  | [_, _], _ => rfl
theorem three_of {P : List ByteArray} (h : P.length = 3) : P = [strF P 0, strF P 1, strF P 2] := by
  match P, h with
  | [_, _, _], _ => rfl
/-- All words behind the first are numbers. -/
def allN (P : List ByteArray) : Prop := ∀ j, j + 1 < P.length → numB (strF P (j + 1)) ≠ none
theorem allN.at {P : List ByteArray} (h : allN P) (j : Nat) (hj : j + 1 < P.length) : numB (strF P (j + 1)) = some (numsB (fun j => strF P (j + 1)) j) := by
  have := h j hj
  cases e : numB (strF P (j + 1)) with
  | none => exact absurd e this
  | some x => simp [numsB, e]
section
variable {P : List ByteArray} {line : List UInt8} {i : Nat} {c : CQ} (hp : P.map (·.data.toList) = piecesL 32 line) (hall : allN P)
include hp hall
theorem step_inputs (hw : (strF P 0).data.toList = wInputs) (hl : P.length = 2) : (lineQ line).bind (stepQ i c) = if i = 0 then some ⟨numsB (fun j => strF P (j + 1)) 0, c.layers⟩ else none := by
  rw [line_two (a := strF P 0) (x := strF P 1) (by rw [← two_of hl]; exact hp) (hall.at 0 (by omega)), if_pos hw]
  rfl
theorem step_layer (hw : (strF P 0).data.toList = wLayer) (hl : P.length = 2) : (lineQ line).bind (stepQ i c) = if i = 0 then none else some ⟨c.log, c.layers ++ [⟨numsB (fun j => strF P (j + 1)) 0, []⟩]⟩ := by
  rw [line_two (a := strF P 0) (x := strF P 1) (by rw [← two_of hl]; exact hp) (hall.at 0 (by omega)), if_neg (by rw [hw]; decide), if_pos hw]
  rfl
theorem step_gate (m : Bool) (hw : (strF P 0).data.toList = if m then wMul else wAdd) (hl : P.length = 3) : (lineQ line).bind (stepQ i c) = if c.layers = [] then none else some ⟨c.log, gateTo c.layers ⟨m, numsB (fun j => strF P (j + 1)) 0, numsB (fun j => strF P (j + 1)) 1⟩⟩ := by
  rw [line_three (a := strF P 0) (x := strF P 1) (y := strF P 2) (by rw [← three_of hl]; exact hp) (hall.at 0 (by omega)) (hall.at 1 (by omega))]
  cases m with
  | true => have hw2 : (strF P 0).data.toList = wMul := hw; rw [if_neg (by rw [hw2]; decide), if_pos hw2]; rfl
  | false => have hw2 : (strF P 0).data.toList = wAdd := hw; rw [if_pos hw2]; rfl
theorem step_two_none (hl : P.length = 2) (h1 : (strF P 0).data.toList ≠ wInputs) (h2 : (strF P 0).data.toList ≠ wLayer) : (lineQ line).bind (stepQ i c) = none := by
  rw [line_two (a := strF P 0) (x := strF P 1) (by rw [← two_of hl]; exact hp) (hall.at 0 (by omega)), if_neg h1, if_neg h2]
  rfl
theorem step_three_none (hl : P.length = 3) (h1 : (strF P 0).data.toList ≠ wAdd) (h2 : (strF P 0).data.toList ≠ wMul) : (lineQ line).bind (stepQ i c) = none := by
  rw [line_three (a := strF P 0) (x := strF P 1) (y := strF P 2) (by rw [← three_of hl]; exact hp) (hall.at 0 (by omega)) (hall.at 1 (by omega)), if_neg h1, if_neg h2]
  rfl
theorem step_inputs_none (hw : (strF P 0).data.toList = wInputs) (h : ¬ (i = 0 ∧ P.length = 2)) : (lineQ line).bind (stepQ i c) = none := by
  by_cases hl : P.length = 2
  · rw [step_inputs hp hall hw hl, if_neg (fun e => h ⟨e, hl⟩)]
  · by_cases h3 : P.length = 3
    · exact step_three_none hp hall h3 (by rw [hw]; decide) (by rw [hw]; decide)
    · rw [line_other hp ⟨hl, h3⟩]; rfl
theorem step_layer_none (hw : (strF P 0).data.toList = wLayer) (h : ¬ (i ≠ 0 ∧ P.length = 2)) : (lineQ line).bind (stepQ i c) = none := by
  by_cases hl : P.length = 2
  · have : i = 0 := Classical.byContradiction fun e => h ⟨e, hl⟩
    rw [step_layer hp hall hw hl, if_pos this]
  · by_cases h3 : P.length = 3
    · exact step_three_none hp hall h3 (by rw [hw]; decide) (by rw [hw]; decide)
    · rw [line_other hp ⟨hl, h3⟩]; rfl
theorem step_gate_none (m : Bool) (hw : (strF P 0).data.toList = if m then wMul else wAdd) (h : ¬ (c.layers ≠ [] ∧ P.length = 3)) : (lineQ line).bind (stepQ i c) = none := by
  by_cases hl : P.length = 3
  · have : c.layers = [] := Classical.byContradiction fun e => h ⟨e, hl⟩
    rw [step_gate hp hall m hw hl, if_pos this]
  · by_cases h2 : P.length = 2
    · exact step_two_none hp hall h2 (by rw [hw]; cases m <;> decide) (by rw [hw]; cases m <;> decide)
    · rw [line_other hp ⟨h2, hl⟩]; rfl
theorem step_word_none (h1 : (strF P 0).data.toList ≠ wInputs) (h2 : (strF P 0).data.toList ≠ wLayer) (h3 : (strF P 0).data.toList ≠ wAdd) (h4 : (strF P 0).data.toList ≠ wMul) : (lineQ line).bind (stepQ i c) = none := by
  by_cases hl : P.length = 3
  · exact step_three_none hp hall hl h3 h4
  · by_cases hl2 : P.length = 2
    · exact step_two_none hp hall hl2 h1 h2
    · rw [line_other hp ⟨hl2, hl⟩]; rfl
end

set_option maxHeartbeats 20000000 in
set_option maxRecDepth 100000 in
theorem rline_any (B0 cb base i : Nat) (c : CQ) (v : Value) (ps : List (LQ × Value)) (line : ByteArray) (M : Int) (w : World) (hs : line.size ≤ 4096) (hi : i ≤ 5000) (hps : ps.length ≤ 5000) (hgs : ∀ p ∈ ps, p.1.gates.length ≤ 5000) (hM : w.cell? ⟨0, 0, none⟩ = some (.int .i64 M)) (hP : PS B0 w cb base c v ps) :
    Calls Tryd.prog 21 #[.pointer (some ⟨cb, 0, none⟩), .int .i64 ((i : Int) + 1), .string line] w fun e w' => Below B0 w w' ∧
      (((lineQ line.data.toList).bind (stepQ i c) = none ∧ e = .returned (.bool false)) ∨
       (∃ c' v' ps', (lineQ line.data.toList).bind (stepQ i c) = some c' ∧ e = .returned (.bool true) ∧ PS B0 w' cb base c' v' ps')) := by
  have HP := hid hP
  have HSP := hid (Tryd.strings_Split line ⟨#[32]⟩ M w (by omega) hM (Nat.le_refl 1))
  have hpc := splitB_pieces 32 line
  have hcn := splitB_count 32 line
  have hcl := Lib.countB_le ⟨#[32]⟩ (Nat.le_refl 1) line.size line (Nat.le_refl _)
  obtain ⟨m, hm⟩ : ∃ m, Lib.countB line ⟨#[32]⟩ = m := ⟨_, rfl⟩
  rw [hm] at HSP hpc hcn hcl
  obtain ⟨P, hPe⟩ : ∃ P, Lib.splitB ⟨#[32]⟩ 0 m line = P := ⟨_, rfl⟩
  rw [hPe] at HSP hpc hcn
  have HPC := hid hpc
  have HPN := hid hcn
  clear hpc hm hPe hcn hP hM
  have HSR := hid (srow_new w P 9)
  rw [HPN.out] at HSR
  go_enter Tryd.func21, Tryd.ntmps21
  go_wp2_with fail
  refine (HSP.out).mono ?_
  rintro e w1 ⟨rfl, hw1⟩
  have hal := (Below.refl w.heap.size w).alloc (Nat.le_refl _) (.cells (P.map Value.string).toArray 9)
  have HP1 := hid (HP.out.kept hal)
  have HB1 := hid (hal.mono (Nat.le_trans HP.out.ge (Nat.le_of_lt (Nat.lt_of_lt_of_le HP.out.lt HP.out.le))))
  have hWb : w.heap.size < (w.alloc (.cells (P.map Value.string).toArray 9)).heap.size := by simp
  obtain ⟨Wb, hWe⟩ : ∃ b, w.heap.size = b := ⟨_, rfl⟩
  have HWL := hid HP.out.le
  rw [← hw1] at HSR HP1 HB1 hWb
  rw [hWe] at HSR hWb HWL ⊢
  clear hw1 hal HSP HP hWe
  have c0 := HSR.out 0 (by omega)
  rw [Nat.add_zero] at c0
  obtain ⟨P0, hP0⟩ : ∃ x, strF P 0 = x := ⟨_, rfl⟩
  rw [hP0] at c0
  obtain ⟨o1, hsl, ho1⟩ : ∃ o1, (if m = 0 then (some ⟨Wb, 0, none⟩ : Option Addr) else some ⟨Wb, 1, none⟩) = some ⟨Wb, o1, none⟩ ∧ (0 < m → o1 = 1) := by
    by_cases h : m = 0
    · exact ⟨0, by rw [if_pos h], fun h2 => by omega⟩
    · exact ⟨1, by rw [if_neg h], fun _ => rfl⟩
  have m1 : (1 : Int) ≤ (m : Int) + 1 := by omega
  go_wp2_with fail
  clear hsl m1
  have HSR1 : Hid (SRow w1 Wb o1 m (fun j => strF P (j + 1))) := hid (fun j hj => by rw [ho1 (by omega)]; have := HSR.out (j + 1) (by omega); rw [show 0 + (j + 1) = 1 + j from by omega] at this; exact this)
  refine (rnums_any Wb o1 m m (fun j => strF P (j + 1)) w1 (by omega) hWb HSR1.out).mono ?_
  rintro e w2 (⟨hall, rfl, hMI⟩ | ⟨hbad, rfl, hb2⟩)
  rotate_left
  · have HB2 := hid (HB1.out.trans (hb2.mono (Nat.le_trans HP1.out.ge (Nat.le_of_lt (Nat.lt_of_lt_of_le HP1.out.lt HP1.out.le)))))
    have HBAD := hid hbad
    clear hb2 hbad HSR1 HSR c0 hP0
    go_wp2_with fail
    go_ret
    refine ⟨HB2.out, .inl ⟨?_, rfl⟩⟩
    obtain ⟨j, hj, hn⟩ := HBAD.out
    rw [line_bad HPC.out ⟨j, by rw [HPN.out]; omega, hn⟩]
    rfl
  · have HALL : Hid (allN P) := hid fun j hj => hall j (by rw [HPN.out] at hj; omega)
    have HB2 := hid (HB1.out.trans (hMI.below.mono (Nat.le_trans HP1.out.ge (Nat.le_of_lt (Nat.lt_of_lt_of_le HP1.out.lt HP1.out.le)))))
    have HP2 := hid (HP1.out.kept hMI.below)
    have c0' : w2.cell? ⟨Wb, 0, none⟩ = some (.string P0) := (hMI.below.cell hWb).trans c0
    obtain ⟨V, hV⟩ : ∃ V, w1.heap.size = V := ⟨_, rfl⟩
    rw [hV] at hMI ⊢
    have HMI := hid hMI
    have HV1 : Hid (base ≤ V) := hid (by rw [← hV]; exact HP1.out.le)
    have HWb : Hid (base ≤ Wb ∧ Wb < w2.heap.size) := hid ⟨HWL.out, Nat.lt_of_lt_of_le hWb hMI.below.size⟩
    clear hall HSR1 HSR c0 hMI hV HP1 HB1 hWb
    obtain ⟨va, vc, hve⟩ : ∃ va vc, v = .slice va ps.length vc := ⟨_, _, HP2.out.own.row.1⟩
    obtain ⟨pk, hpk⟩ : ∃ x, ps.length = x := ⟨_, rfl⟩
    rw [hpk] at hve hps
    subst hve
    have HPK := hid hpk
    clear hpk
    obtain ⟨b0, b1⟩ : _ ∧ _ := ⟨HP2.out.box0, HP2.out.box1⟩
    have f0 := HP2.out.fr0
    have f1 := HP2.out.fr1
    have HP0 := hid hP0
    clear hP0
    by_cases hwi : P0.data.toList = wInputs
    · have t1 : (P0.toList == [105, 110, 112, 117, 116, 115]) = true := by rw [word_eq]; exact decide_eq_true hwi
      have hn1 : Hid (∀ h : ¬ (i = 0 ∧ m = 1), (lineQ line.data.toList).bind (stepQ i c) = none) := hid fun h => step_inputs_none HPC.out HALL.out (by rw [HP0.out]; exact hwi) (by rw [HPN.out]; omega)
      by_cases hi0 : i = 0
      · have e1 : (((i : Int) + 1) != 1) = false := by rw [hi0]; rfl
        by_cases hm1 : m = 1
        · subst hm1
          have e2 : (((1 : Nat) : Int) != 1) = false := rfl
          have cn := HMI.out.row 0 (by omega)
          obtain ⟨x, hx⟩ : ∃ x, numsB (fun j => strF P (j + 1)) 0 = x := ⟨_, rfl⟩
          rw [hx] at cn
          have HN : Hid ((lineQ line.data.toList).bind (stepQ i c) = some ⟨x, c.layers⟩) := hid (by rw [step_inputs HPC.out HALL.out (by rw [HP0.out]; exact hwi) (by rw [HPN.out]), if_pos hi0, hx])
          clear hx
          go_wp2_with fail
          go_ret
          exact ⟨HB2.out.setCell HP2.out.ge _, .inr ⟨_, _, _, HN.out, rfl, HP2.out.inputs x⟩⟩
        · have e2 : ((m : Int) != 1) = true := by simp; omega
          go_wp2_with fail
          go_ret
          exact ⟨HB2.out, .inl ⟨hn1.out (fun h => hm1 h.2), rfl⟩⟩
      · have e1 : (((i : Int) + 1) != 1) = true := by simp; omega
        go_wp2_with fail
        go_ret
        exact ⟨HB2.out, .inl ⟨hn1.out (fun h => hi0 h.1), rfl⟩⟩
    · have t1 : (P0.toList == [105, 110, 112, 117, 116, 115]) = false := by rw [word_eq]; exact decide_eq_false hwi
      by_cases hwl : P0.data.toList = wLayer
      · have t2 : (P0.toList == [108, 97, 121, 101, 114]) = true := by rw [word_eq]; exact decide_eq_true hwl
        have hn1 : Hid (∀ h : ¬ (i ≠ 0 ∧ m = 1), (lineQ line.data.toList).bind (stepQ i c) = none) := hid fun h => step_layer_none HPC.out HALL.out (by rw [HP0.out]; exact hwl) (by rw [HPN.out]; omega)
        by_cases hi0 : i = 0
        · have e1 : (((i : Int) + 1) == 1) = true := by rw [hi0]; rfl
          go_wp2_with fail
          go_ret
          exact ⟨HB2.out, .inl ⟨hn1.out (fun h => h.1 hi0), rfl⟩⟩
        · have e1 : (((i : Int) + 1) == 1) = false := beq_eq_false_iff_ne.2 (by omega)
          by_cases hm1 : m = 1
          · subst hm1
            have e2 : (((1 : Nat) : Int) != 1) = false := rfl
            have cn := HMI.out.row 0 (by omega)
            obtain ⟨x, hx⟩ : ∃ x, numsB (fun j => strF P (j + 1)) 0 = x := ⟨_, rfl⟩
            rw [hx] at cn
            have HN : Hid ((lineQ line.data.toList).bind (stepQ i c) = some ⟨c.log, c.layers ++ [⟨x, []⟩]⟩) := hid (by rw [step_layer HPC.out HALL.out (by rw [HP0.out]; exact hwl) (by rw [HPN.out]), if_neg hi0, hx])
            clear hx
            obtain ⟨iy, zy, hy1, hy2, hy3, hy4, hy5⟩ := infoY_parts
            have HY := hid (And.intro hy1 (And.intro hy2 (And.intro hy3 (And.intro hy4 hy5))))
            clear hy1 hy2 hy3 hy4 hy5
            have hle := HP2.out.le
            have HO : Hid (w2.ownsRow base 43 2 (.slice va pk vc) pk (lcells ps)) := hid (by have := HP2.out.own.own; rw [HPK.out] at this; exact this)
            go_wp2_with fail
            have hal := (Below.refl w2.heap.size w2).alloc (Nat.le_refl _) (.cells #[.int .i64 x, .slice none 0 0] 43)
            have HPA := hid (HP2.out.kept hal)
            have HBA := hid (HB2.out.trans (hal.mono (Nat.le_trans HP2.out.ge (Nat.le_of_lt (Nat.lt_of_lt_of_le HP2.out.lt HP2.out.le)))))
            have HLO : Hid (∀ k, (Value.slice va pk vc).ownBlock = some k → base ≤ k) := hid fun k hk => (HO.out.lt k hk).1
            clear hal
            have cbl : cb < w2.heap.size := Nat.lt_of_lt_of_le HP2.out.lt HP2.out.le
            have b1' : ∀ o, (w2.alloc o).cell? ⟨cb, 1, none⟩ = some (.slice va pk vc) := fun o => by rw [World.cell?_alloc_old _ _ _ (Nat.ne_of_lt cbl)]; exact b1
            go_region_law (refine step_append_lies _ rfl (.tmp 52) (.tmp 57) 22 rfl base 43 iy zy 2 32 Tryd.underlying22 HY.out.1 HY.out.2.1 HY.out.2.2.1 HY.out.2.2.2.1 HY.out.2.2.2.2 (by decide) (.slice va pk vc) pk (lcells ps) (by simp [Act.eval]) (World.ownsRow.alloc HO.out _) ⟨w2.heap.size, 0, none⟩ 1 1 [.int .i64 x, .slice none 0 0] (by simp [Act.eval]) rfl (news_all w2 [.int .i64 x, .slice none 0 0] _) (one_layer x) (by omega) (by unfold maxLen; omega) (by omega) (by simp; omega) (w2.heap.size + 1) (by simp) ?_; intro g6 c6 w6 hown6 hgrow6 hat6 hlt6; have hl6 := grown_low (p := 1) (grown_dry hgrow6) HLO.out HPA.out.lt HPA.out.le; have q1 : w6.cell? ⟨cb, 1, none⟩ = some (.slice va pk vc) := hl6.1.trans HPA.out.box1; have q2 : w6.frozen? ⟨cb, 1, none⟩ = false := hl6.2.trans HPA.out.fr1; clear hl6)
            all_goals (go_wp2_with fail)
            all_goals go_ret
            all_goals (clear b1')
            all_goals
              have hown7 : w6.ownsRow base 43 2 (.slice (some ⟨g6, 0, none⟩) (ps.length + 1) c6) (ps.length + 1) (lcells ps ++ [.int .i64 x, .slice none 0 0]) := by rw [HPK.out]; exact hown6
              have hP7 := HPA.out.layer hown7 (grown_dry hgrow6) (by rcases hat6 with e | e; exact .inl e; exact .inr (by rw [e]; simp))
              rw [HPK.out] at hP7
              exact ⟨(HBA.out.grown (grown_dry hgrow6) (by simp; have := HP2.out.ge; have := HP2.out.lt; omega) (fun k hk => Nat.le_trans (Nat.le_trans HP2.out.ge (Nat.le_of_lt HP2.out.lt)) (HLO.out k hk))).setCell HP2.out.ge _, .inr ⟨_, _, _, HN.out, rfl, hP7⟩⟩
          · have e2 : ((m : Int) != 1) = true := by simp; omega
            go_wp2_with fail
            go_ret
            exact ⟨HB2.out, .inl ⟨hn1.out (fun h => hm1 h.2), rfl⟩⟩
      · have t2 : (P0.toList == [108, 97, 121, 101, 114]) = false := by rw [word_eq]; exact decide_eq_false hwl
        by_cases hwg : ∃ mb : Bool, P0.data.toList = if mb then wMul else wAdd
        · obtain ⟨mb, hwg⟩ := hwg
          have t3 : (P0.toList == [97, 100, 100]) = !mb := by rw [word_eq, hwg]; cases mb <;> decide
          have t4 : (P0.toList == [109, 117, 108]) = mb := by rw [word_eq, hwg]; cases mb <;> decide
          have hn1 : Hid (∀ h : ¬ (c.layers ≠ [] ∧ m = 2), (lineQ line.data.toList).bind (stepQ i c) = none) := hid fun h => step_gate_none HPC.out HALL.out mb (by rw [HP0.out]; exact hwg) (fun h2 => h ⟨h2.1, by have := h2.2; rw [HPN.out] at this; omega⟩)
          have hpl : Hid (c.layers.length = pk) := hid (by rw [HP2.out.lay, List.length_map, HPK.out])
          by_cases hp0 : pk = 0
          · subst hp0
            have hle : c.layers = [] := List.eq_nil_of_length_eq_zero hpl.out
            have HNO := hid (hn1.out (fun h => h.1 hle))
            clear hle
            cases mb with
            | true =>
              go_wp2_with fail
              go_ret
              exact ⟨HB2.out, .inl ⟨HNO.out, rfl⟩⟩
            | false =>
              go_wp2_with fail
              go_ret
              exact ⟨HB2.out, .inl ⟨HNO.out, rfl⟩⟩
          · have e1 : ((pk : Int) == 0) = false := beq_eq_false_iff_ne.2 (by omega)
            by_cases hm2 : m = 2
            · subst hm2
              have e2 : (((2 : Nat) : Int) != 2) = false := rfl
              have cn := HMI.out.row 0 (by omega)
              have cm := HMI.out.row 1 (by omega)
              obtain ⟨x, hx⟩ : ∃ x, numsB (fun j => strF P (j + 1)) 0 = x := ⟨_, rfl⟩
              obtain ⟨y, hy⟩ : ∃ x, numsB (fun j => strF P (j + 1)) 1 = x := ⟨_, rfl⟩
              rw [hx] at cn
              rw [hy] at cm
              have hne : c.layers ≠ [] := fun e => by have := hpl.out; rw [e] at this; simp at this; omega
              have HN : Hid ((lineQ line.data.toList).bind (stepQ i c) = some ⟨c.log, gateTo c.layers ⟨mb, x, y⟩⟩) := hid (by rw [step_gate HPC.out HALL.out mb (by rw [HP0.out]; exact hwg) (by rw [HPN.out]), if_neg hne, hx, hy])
              clear hx hy hne hn1
              obtain ⟨qs, lg, hps2⟩ : ∃ qs p, ps = qs ++ [p] := ⟨_, _, (List.dropLast_concat_getLast (l := ps) (fun e => by have := HPK.out; rw [e] at this; simp at this; omega)).symm⟩
              obtain ⟨l, gv⟩ := lg
              obtain ⟨vb, vc', hvf, hvb1, hvb2⟩ := HP2.out.own.own.form (by rw [HPK.out]; omega)
              rw [HPK.out] at hvf
              injection hvf with hva _ hvc
              subst hva
              subst hvc
              obtain ⟨q, hq⟩ : ∃ q, qs.length = q := ⟨_, rfl⟩
              obtain rfl : pk = q + 1 := by have := HPK.out; rw [hps2, List.length_append, hq] at this; simpa using this.symm
              have hgo := HP2.out.own.gates (l, gv) (by rw [hps2]; simp)
              obtain ⟨hgv, _, hgc, _⟩ := GRow.of_own hgo
              obtain ⟨gl, hgl⟩ : ∃ n, l.gates.length = n := ⟨_, rfl⟩
              have gl5 : gl ≤ 5000 := by rw [← hgl]; exact hgs (l, gv) (by rw [hps2]; simp)
              have hla := lcells_at ps q (l, gv) (by rw [hps2, ← hq]; simp)
              have ho := HP2.out.own.own
              rw [HPK.out] at ho
              have cg : w2.cell? ⟨vb, q * 2 + 1, none⟩ = some gv := by rw [Nat.mul_comm q 2, ho.cellAt _ (by omega)]; exact hla.2
              have fg : w2.frozen? ⟨vb, q * 2 + 1, none⟩ = false := ho.frozenAt _
              have hap : gv.ownBlock ≠ some vb := fun e => HP2.out.own.apart (l, gv) (by rw [hps2]; simp) vb e rfl
              rw [hgl] at hgo hgv
              have HGO := hid hgo
              have HGL := hid hgl
              have HPS := hid hps2
              have HQ := hid hq
              have HAP := hid hap
              obtain ⟨gva, hgva⟩ : ∃ a, adrV gv = a := ⟨_, rfl⟩
              obtain ⟨gvc, hgvc⟩ : ∃ a, capV gv = a := ⟨_, rfl⟩
              rw [hgva, hgvc] at hgv
              subst hgv
              clear hgo hgl hps2 hq hap hgva hgvc hgc hla ho hgs
              obtain ⟨ig, zg, hy1, hy2, hy3, hy4, hy5⟩ := infoG_parts
              have HY := hid (And.intro hy1 (And.intro hy2 (And.intro hy3 (And.intro hy4 hy5))))
              clear hy1 hy2 hy3 hy4 hy5
              have q0 : (0 : Int) ≤ (q : Int) := by omega
              have q1 : (q : Int) < (q : Int) + 1 := by omega
              have wq : IntKind.i64.wrap (q : Int) = (q : Int) := IntWalk.i64_in _ (by omega)
              cases mb with
              | true =>
                go_wp2_with fail
                go_quiet (fail)
                go_wp2_with fail
                have hbq : Below w2.heap.size w2 (w2.drewN nq) := ⟨rfl, rfl, rfl, Nat.le_refl _, fun _ _ => rfl⟩
                have HP3 := hid (HP2.out.kept hbq)
                have HB3 := hid (HB2.out.trans (hbq.mono (Nat.le_trans HP2.out.ge (Nat.le_of_lt (Nat.lt_of_lt_of_le HP2.out.lt HP2.out.le)))))
                have HGO3 := hid (owns_kept HGO.out hbq)
                have cg3 := (hbq.cell hvb2).trans cg
                have fg3 := (hbq.frozen hvb2).trans fg
                have c03 := (hbq.cell HWb.out.2).trans c0'
                have cn3 := (hbq.cell HMI.out.lt).trans cn
                have cm3 := (hbq.cell HMI.out.lt).trans cm
                have vb3 : vb < (w2.drewN nq).heap.size := hvb2
                clear hbq HGO cg fg c0' cn cm b0 b1 f0 f1 HP2 HB2
                generalize w2.drewN nq = w3 at HP3 HB3 HGO3 cg3 fg3 c03 cn3 cm3 vb3 ⊢
                have hle := HP3.out.le
                have hal := (Below.refl w3.heap.size w3).alloc (Nat.le_refl _) (.cells #[.bool true, .int .i64 x, .int .i64 y] 46)
                have HPA := hid (HP3.out.kept hal)
                have HBA := hid (HB3.out.trans (hal.mono (Nat.le_trans HP3.out.ge (Nat.le_of_lt (Nat.lt_of_lt_of_le HP3.out.lt HP3.out.le)))))
                have HLO : Hid (∀ k, (Value.slice gva gl gvc).ownBlock = some k → base ≤ k) := hid fun k hk => (HGO3.out.lt k hk).1
                clear hal
                have cg' : ∀ o, (w3.alloc o).cell? ⟨vb, q * 2 + 1, none⟩ = some (.slice gva gl gvc) := fun o => by rw [World.cell?_alloc_old _ _ _ (Nat.ne_of_lt vb3)]; exact cg3
                have fg' : ∀ o, (w3.alloc o).frozen? ⟨vb, q * 2 + 1, none⟩ = false := fun o => by rw [World.frozen?_alloc_old _ _ _ (Nat.ne_of_lt vb3)]; exact fg3
                go_region_law (refine step_append_lies _ rfl (.tmp 90) (.tmp 102) 41 rfl base 46 ig zg 3 24 Tryd.underlying41 HY.out.1 HY.out.2.1 HY.out.2.2.1 HY.out.2.2.2.1 HY.out.2.2.2.2 (by decide) (.slice gva gl gvc) gl (gcells l.gates) (by simp [Act.eval]) (World.ownsRow.alloc HGO3.out _) ⟨w3.heap.size, 0, none⟩ 1 1 [.bool true, .int .i64 x, .int .i64 y] (by simp [Act.eval]) rfl (news_all w3 [.bool true, .int .i64 x, .int .i64 y] _) (one_gate true x y) (by omega) (by unfold maxLen; omega) (by omega) (by simp; omega) (w3.heap.size + 1) (by simp) ?_; intro g6 c6 w6 hown6 hgrow6 hat6 hlt6; have he6 : w6.heap[vb]? = (w3.alloc (.cells #[.bool true, .int .i64 x, .int .i64 y] 46)).heap[vb]? := (grown_dry hgrow6).block vb (by simp; omega) (fun e => HAP.out e.symm); have p1 : w6.cell? ⟨vb, q * 2 + 1, none⟩ = some (.slice gva gl gvc) := (World.cell?_of_block he6).trans (cg' _); have p2 : w6.frozen? ⟨vb, q * 2 + 1, none⟩ = false := (World.frozen?_of_block he6).trans (fg' _); clear he6)
                all_goals (go_wp2_with fail)
                all_goals go_ret
                all_goals (clear cg' fg')
                all_goals
                  have hown7 : w6.ownsRow base 46 3 (.slice (some ⟨g6, 0, none⟩) (l.gates.length + 1) c6) (l.gates.length + 1) (gcells l.gates ++ [.bool true, .int .i64 x, .int .i64 y]) := by rw [HGL.out]; exact hown6
                  have hPQ := HPA.out
                  rw [HPS.out] at hPQ
                  rw [← HQ.out] at hPQ
                  have hP7 := PS.gate (x := ⟨true, x, y⟩) hPQ hown7 (grown_dry hgrow6) (by rcases hat6 with e | e; exact .inl e; exact .inr (by rw [e]; simp))
                  rw [HQ.out, HGL.out, Nat.mul_comm 2 q] at hP7
                  exact ⟨(HBA.out.grown (grown_dry hgrow6) (by simp; have := HP3.out.ge; have := HP3.out.lt; omega) (fun k hk => Nat.le_trans (Nat.le_trans HP3.out.ge (Nat.le_of_lt HP3.out.lt)) (HLO.out k hk))).setCell (Nat.le_trans (Nat.le_trans HP3.out.ge (Nat.le_of_lt HP3.out.lt)) hvb1) _, .inr ⟨_, _, _, HN.out, rfl, hP7⟩⟩
              | false =>
                go_wp2_with fail
                go_quiet (fail)
                go_wp2_with fail
                have hbq : Below w2.heap.size w2 (w2.drewN nq) := ⟨rfl, rfl, rfl, Nat.le_refl _, fun _ _ => rfl⟩
                have HP3 := hid (HP2.out.kept hbq)
                have HB3 := hid (HB2.out.trans (hbq.mono (Nat.le_trans HP2.out.ge (Nat.le_of_lt (Nat.lt_of_lt_of_le HP2.out.lt HP2.out.le)))))
                have HGO3 := hid (owns_kept HGO.out hbq)
                have cg3 := (hbq.cell hvb2).trans cg
                have fg3 := (hbq.frozen hvb2).trans fg
                have c03 := (hbq.cell HWb.out.2).trans c0'
                have cn3 := (hbq.cell HMI.out.lt).trans cn
                have cm3 := (hbq.cell HMI.out.lt).trans cm
                have vb3 : vb < (w2.drewN nq).heap.size := hvb2
                clear hbq HGO cg fg c0' cn cm b0 b1 f0 f1 HP2 HB2
                generalize w2.drewN nq = w3 at HP3 HB3 HGO3 cg3 fg3 c03 cn3 cm3 vb3 ⊢
                have hle := HP3.out.le
                have hal := (Below.refl w3.heap.size w3).alloc (Nat.le_refl _) (.cells #[.bool false, .int .i64 x, .int .i64 y] 46)
                have HPA := hid (HP3.out.kept hal)
                have HBA := hid (HB3.out.trans (hal.mono (Nat.le_trans HP3.out.ge (Nat.le_of_lt (Nat.lt_of_lt_of_le HP3.out.lt HP3.out.le)))))
                have HLO : Hid (∀ k, (Value.slice gva gl gvc).ownBlock = some k → base ≤ k) := hid fun k hk => (HGO3.out.lt k hk).1
                clear hal
                have cg' : ∀ o, (w3.alloc o).cell? ⟨vb, q * 2 + 1, none⟩ = some (.slice gva gl gvc) := fun o => by rw [World.cell?_alloc_old _ _ _ (Nat.ne_of_lt vb3)]; exact cg3
                have fg' : ∀ o, (w3.alloc o).frozen? ⟨vb, q * 2 + 1, none⟩ = false := fun o => by rw [World.frozen?_alloc_old _ _ _ (Nat.ne_of_lt vb3)]; exact fg3
                go_region_law (refine step_append_lies _ rfl (.tmp 90) (.tmp 102) 41 rfl base 46 ig zg 3 24 Tryd.underlying41 HY.out.1 HY.out.2.1 HY.out.2.2.1 HY.out.2.2.2.1 HY.out.2.2.2.2 (by decide) (.slice gva gl gvc) gl (gcells l.gates) (by simp [Act.eval]) (World.ownsRow.alloc HGO3.out _) ⟨w3.heap.size, 0, none⟩ 1 1 [.bool false, .int .i64 x, .int .i64 y] (by simp [Act.eval]) rfl (news_all w3 [.bool false, .int .i64 x, .int .i64 y] _) (one_gate false x y) (by omega) (by unfold maxLen; omega) (by omega) (by simp; omega) (w3.heap.size + 1) (by simp) ?_; intro g6 c6 w6 hown6 hgrow6 hat6 hlt6; have he6 : w6.heap[vb]? = (w3.alloc (.cells #[.bool false, .int .i64 x, .int .i64 y] 46)).heap[vb]? := (grown_dry hgrow6).block vb (by simp; omega) (fun e => HAP.out e.symm); have p1 : w6.cell? ⟨vb, q * 2 + 1, none⟩ = some (.slice gva gl gvc) := (World.cell?_of_block he6).trans (cg' _); have p2 : w6.frozen? ⟨vb, q * 2 + 1, none⟩ = false := (World.frozen?_of_block he6).trans (fg' _); clear he6)
                all_goals (go_wp2_with fail)
                all_goals go_ret
                all_goals (clear cg' fg')
                all_goals
                  have hown7 : w6.ownsRow base 46 3 (.slice (some ⟨g6, 0, none⟩) (l.gates.length + 1) c6) (l.gates.length + 1) (gcells l.gates ++ [.bool false, .int .i64 x, .int .i64 y]) := by rw [HGL.out]; exact hown6
                  have hPQ := HPA.out
                  rw [HPS.out] at hPQ
                  rw [← HQ.out] at hPQ
                  have hP7 := PS.gate (x := ⟨false, x, y⟩) hPQ hown7 (grown_dry hgrow6) (by rcases hat6 with e | e; exact .inl e; exact .inr (by rw [e]; simp))
                  rw [HQ.out, HGL.out, Nat.mul_comm 2 q] at hP7
                  exact ⟨(HBA.out.grown (grown_dry hgrow6) (by simp; have := HP3.out.ge; have := HP3.out.lt; omega) (fun k hk => Nat.le_trans (Nat.le_trans HP3.out.ge (Nat.le_of_lt HP3.out.lt)) (HLO.out k hk))).setCell (Nat.le_trans (Nat.le_trans HP3.out.ge (Nat.le_of_lt HP3.out.lt)) hvb1) _, .inr ⟨_, _, _, HN.out, rfl, hP7⟩⟩
            · have e2 : ((m : Int) != 2) = true := by simp; omega
              have HNO := hid (hn1.out (fun h => hm2 h.2))
              cases mb with
              | true =>
                go_wp2_with fail
                go_ret
                exact ⟨HB2.out, .inl ⟨HNO.out, rfl⟩⟩
              | false =>
                go_wp2_with fail
                go_ret
                exact ⟨HB2.out, .inl ⟨HNO.out, rfl⟩⟩
        · have h3 : P0.data.toList ≠ wAdd := fun e => hwg ⟨false, e⟩
          have h4 : P0.data.toList ≠ wMul := fun e => hwg ⟨true, e⟩
          have t3 : (P0.toList == [97, 100, 100]) = false := by rw [word_eq]; exact decide_eq_false h3
          have t4 : (P0.toList == [109, 117, 108]) = false := by rw [word_eq]; exact decide_eq_false h4
          have HNO : Hid ((lineQ line.data.toList).bind (stepQ i c) = none) := hid (step_word_none HPC.out HALL.out (by rw [HP0.out]; exact hwi) (by rw [HP0.out]; exact hwl) (by rw [HP0.out]; exact h3) (by rw [HP0.out]; exact h4))
          go_wp2_with fail
          go_ret
          exact ⟨HB2.out, .inl ⟨HNO.out, rfl⟩⟩

end Go.Proofs.YtnnnlalhhhhaeaaDoor
