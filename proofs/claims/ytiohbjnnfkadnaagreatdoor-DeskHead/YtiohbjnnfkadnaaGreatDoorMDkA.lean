/-
  Several texts in one: DskP, DkL0, DkA, DkB, DkC; each opens with what it holds.
-/
import Derived.Test.YtiohbjnnfkadnaaGreatDoorMDsk
import Derived.Test.YtiohbjnnfkadnaaGreatDoorCirc
import Derived.Test.YtiohbjnnfkadnaaGreatDoorCircL
import Derived.Test.YtiohbjnnfkadnaaGreatDoorMFiat
import Derived.Test.YtiohbjnnfkadnaaGreatDoorMOpA
import Derived.Test.YtiohbjnnfkadnaaGreatDoorMSum
import Derived.Test.YtiohbjnnfkadnaaGreatDoorMTx
import Derived.Test.YtiohbjnnfkadnaaGreatDoorShelf
import Derived.Test.YtiohbjnnfkadnaaGreatDoorField
import Derived.Test.YtiohbjnnfkadnaaGreatDoorMleSum
import Derived.Deep.RegionHeld3
/-
  Plain: what a desk answers to a line, and to a text (the document's chapter 12); no program in it.
-/
namespace Go.Proofs.YtiohbjnnfkadnaaGreatDoor
set_option linter.unusedVariables false

/-- What a circuit's text is read as. -/
noncomputable def parseF (s : List UInt8) : CQ × Nat × Int := open Classical in if h : ∃ x : CQ × Nat × Int, parseE s x.1 x.2.1 x.2.2 then h.choose else (⟨0, []⟩, 0, 0)
theorem parseF_eq {s : List UInt8} {c : CQ} {a : Nat} {e : Int} (h : parseE s c a e) : parseF s = (c, a, e) := by
  unfold parseF
  have hx : ∃ x : CQ × Nat × Int, parseE s x.1 x.2.1 x.2.2 := ⟨(c, a, e), h⟩
  rw [dif_pos hx]
  obtain ⟨h1, h2, h3⟩ := parseE_one hx.choose_spec h
  exact Prod.ext h1 (Prod.ext h2 h3)
theorem layersE_rng : ∀ {r : List LQ} {k e : Int}, layersE k r e → 0 ≤ e ∧ e ≤ 5
  | [], k, e, h => by have h : e = 0 := h; omega
  | l :: r, k, e, h => by
    rcases h with ⟨e', h1, h2, h3⟩ | ⟨h1, h2⟩
    · rcases h1 with ⟨_, h4⟩ | ⟨_, _, h4⟩ | ⟨_, _, _, h4⟩ | ⟨_, _, _, h4⟩ <;> omega
    · exact layersE_rng h2
theorem checkE_rng {c : CQ} {e : Int} (h : checkE c e) : 0 ≤ e ∧ e ≤ 5 := by
  rcases h with ⟨_, h⟩ | ⟨_, _, h⟩ | ⟨_, _, _, h⟩
  · omega
  · omega
  · exact layersE_rng h
theorem parseE_rng {s : List UInt8} {c : CQ} {a : Nat} {e : Int} (h : parseE s c a e) : 0 ≤ e ∧ e ≤ 5 := by
  rcases h with ⟨_, _, _, h⟩ | ⟨_, _, _, h⟩ | ⟨_, d, _, h, _⟩
  · omega
  · omega
  · exact checkE_rng h
/-- What is read without an error is right, and its text is the text. -/
theorem parseE_ok {s : List UInt8} {c : CQ} {a : Nat} (h : parseE s c a 0) : c.right ∧ printQ c = s ∧ s.length ≤ 4096 := by
  rcases h with ⟨_, _, _, h⟩ | ⟨_, _, _, h⟩ | ⟨hl, d, h1, h2, _, h3, _⟩
  · omega
  · omega
  · rw [h3 rfl]
    exact ⟨checkE_zero.1 h2, (print_text h1).1, hl⟩
/-- Whether a proof of the inputs a holds for the outputs b. -/
def HoldD (c : CQ) (a b : List Nat) : Prop :=
  (partsQ c).holds (fiatD c a.length b.length (fOf a) (fOf b) (fiatP c a.length b.length (fOf a))) (fiatP c a.length b.length (fOf a)).told (ofK (evS (fun j => kk (fOf b j)) (fun j => kk (fiatD c a.length b.length (fOf a) (fOf b) (fiatP c a.length b.length (fOf a)) j)) ((partsQ c).lg 0))) (fun j => kk (fOf a j))
/-- The numbers that a circuit tells. -/
def outD (c : CQ) (a : List Nat) : List Nat := (List.range (lenQ c c.layers.length)).map fun j => (valsQ c (fOf a) c.layers.length j).toNat
theorem outD_len (c : CQ) (a : List Nat) : (outD c a).length = lenQ c c.layers.length := by simp [outD]
theorem outD_at (c : CQ) (a : List Nat) {j : Nat} (h : j < lenQ c c.layers.length) : fOf (outD c a) j = valsQ c (fOf a) c.layers.length j := by
  have := valsQ_rng c (fOf a) c.layers.length j
  show (((outD c a).getD j 0 : Nat) : Int) = _
  rw [outD, List.getD_eq_getElem?_getD, List.getElem?_map, List.getElem?_range h]
  show (((valsQ c (fOf a) c.layers.length j).toNat : Nat) : Int) = _
  omega
theorem outD_rng (c : CQ) (a : List Nat) : ∀ z ∈ outD c a, z ≤ 18446744073709551615 := fun z hz => by
  obtain ⟨j, _, rfl⟩ := List.mem_map.1 hz
  have := valsQ_rng c (fOf a) c.layers.length j
  omega
/-- Commands that need a circuit. -/
noncomputable def netD (text verb : List UInt8) (a b : List Nat) : List UInt8 := open Classical in
  if (parseF text).2.2 ≠ 0 then wrongD (parseF text).2.2.toNat ++ 32 :: Lib.decDigits (parseF text).2.1
  else if verb = [115, 104, 111, 119] then text ++ [111, 107]
  else if a.length ≠ lenQ (parseF text).1 0 then wrongD 4
  else if verb = [114, 117, 110] then saidD (outD (parseF text).1 a)
  else if b.length ≠ lenQ (parseF text).1 (parseF text).1.layers.length then wrongD 4
  else if HoldD (parseF text).1 a b then [104, 111, 108, 100, 115] else [102, 97, 105, 108, 115]

/-- The words ahead of the first slash, and behind it. -/
def cutW : List (List UInt8) → Option (List (List UInt8) × List (List UInt8))
  | [] => none
  | x :: r => if x = [47] then some ([], r) else (cutW r).map fun p => (x :: p.1, p.2)
theorem cutW_none : ∀ {ws : List (List UInt8)}, (∀ x ∈ ws, x ≠ [47]) → cutW ws = none
  | [], _ => rfl
  | x :: r, h => by rw [cutW, if_neg (h x (List.mem_cons_self ..)), cutW_none (fun y hy => h y (List.mem_cons_of_mem _ hy))]; rfl
theorem cutW_at : ∀ {ws : List (List UInt8)} {k : Nat}, (∀ j, j < k → ws[j]? ≠ some [47]) → ws[k]? = some [47] → cutW ws = some (ws.take k, ws.drop (k + 1))
  | [], k, _, h => by simp at h
  | x :: r, 0, _, h => by
    have e : x = [47] := by simpa using h
    rw [cutW, if_pos e]
    simp
  | x :: r, k + 1, hj, h => by
    have e : x ≠ [47] := fun e => hj 0 (by omega) (by simp [e])
    rw [cutW, if_neg e, cutW_at (ws := r) (k := k) (fun j h1 => by have := hj (j + 1) (by omega); simpa using this) (by simpa using h)]
    simp
/-- The numbers that words are. -/
noncomputable def numsF (ws : List (List UInt8)) : Option (List Nat) := open Classical in if h : ∃ l, IsNums ws l then some h.choose else none
theorem numsF_some {ws : List (List UInt8)} {l : List Nat} (h : IsNums ws l) : numsF ws = some l := by
  have hx : ∃ l, IsNums ws l := ⟨l, h⟩
  unfold numsF
  rw [dif_pos hx, hx.choose_spec.one h]
theorem numsF_none {ws : List (List UInt8)} (h : ¬ ∃ l, IsNums ws l) : numsF ws = none := by unfold numsF; rw [dif_neg h]
/-- The variables of a table. -/
noncomputable def varsF (n : Nat) : Option Nat := open Classical in if h : ∃ k, k ≤ 8 ∧ n = 2 ^ k then some h.choose else none
theorem pow_one {a b : Nat} (h : 2 ^ a = 2 ^ b) : a = b := by
  rcases Nat.lt_trichotomy a b with h1 | h1 | h1
  · have := Nat.pow_lt_pow_right (a := 2) (by omega) h1; omega
  · exact h1
  · have := Nat.pow_lt_pow_right (a := 2) (by omega) h1; omega
theorem varsF_some {n k : Nat} (h : k ≤ 8) (e : n = 2 ^ k) : varsF n = some k := by
  have hx : ∃ k, k ≤ 8 ∧ n = 2 ^ k := ⟨k, h, e⟩
  unfold varsF
  rw [dif_pos hx, pow_one (hx.choose_spec.2.symm.trans e)]
theorem varsF_none {n : Nat} (h : ∀ k, k ≤ 8 → n ≠ 2 ^ k) : varsF n = none := by unfold varsF; rw [dif_neg (fun ⟨k, h1, h2⟩ => h k h1 h2)]
/-- What a command's numbers are. -/
noncomputable def argsF (v : List UInt8) (ws : List (List UInt8)) : Option (List Nat × List Nat) :=
  if v = [101, 118, 97, 108] ∨ v = [112, 114, 111, 118, 101] then (cutW ws).bind fun p => (numsF p.1).bind fun a => (numsF p.2).map fun b => (a, b)
  else (numsF ws).map fun a => (a, [])
/-- The answer to a command with its numbers. -/
noncomputable def ansN (text v : List UInt8) (a b : List Nat) : List UInt8 :=
  if v = [97, 100, 100] then (if a.length = 2 then saidD [(addQ (fOf a 0) (fOf a 1)).toNat] else wrongD 3)
  else if v = [115, 117, 98] then (if a.length = 2 then saidD [(subQ (fOf a 0) (fOf a 1)).toNat] else wrongD 3)
  else if v = [109, 117, 108] then (if a.length = 2 then saidD [(mulQ (fOf a 0) (fOf a 1)).toNat] else wrongD 3)
  else if v = [112, 111, 119] then (if a.length = 2 then saidD [(powQ (fOf a 0) (fOf a 1).toNat).toNat] else wrongD 3)
  else if v = [105, 110, 118] then (if a.length = 1 then (if nrm (fOf a 0) = 0 then wrongD 1 else saidD [(invQ (fOf a 0)).toNat]) else wrongD 3)
  else if v = [115, 104, 111, 119] then (if a.length = 0 then netD text v a b else wrongD 3)
  else if v = [115, 117, 109] then (match varsF a.length with | none => wrongD 4 | some _ => saidD [(ofK (sK (fun j => kk (fOf a j)) a.length)).toNat])
  else if v = [114, 111, 111, 116] then (match varsF a.length with | none => wrongD 4 | some n => saidD [(rootQ n (fOf a)).toNat])
  else if v = [101, 118, 97, 108] then (match varsF a.length with | none => wrongD 4 | some n => if b.length = n then saidD [(ofK (evS (fun j => kk (fOf a j)) (fun j => kk (fOf b j)) n)).toNat] else wrongD 1)
  else if v = [114, 117, 110] then netD text v a b
  else if v = [112, 114, 111, 118, 101] then netD text v a b
  else wrongD 3
noncomputable def ansD (text v : List UInt8) (ws : List (List UInt8)) : List UInt8 := match argsF v ws with | none => wrongD 3 | some p => ansN text v p.1 p.2
/-- One line: the text behind it, and what is answered. -/
noncomputable def stepD (text : List UInt8) : List (List UInt8) → List UInt8 × List UInt8
  | [] => (text, [])
  | v :: r => if v.head? = some 35 then (text, [])
    else if v = [99, 105, 114, 99, 117, 105, 116] ∧ r ≠ [] then (if text.length + (joinD r).length + 1 > 4096 then (text, wrongD 2 ++ [10]) else (text ++ (joinD r ++ [10]), [111, 107, 10]))
    else if v = [99, 108, 101, 97, 114] ∧ r = [] then ([], [111, 107, 10])
    else (text, ansD text v r ++ [10])
/-- Line by line. -/
noncomputable def foldD (st : List UInt8 × List UInt8) (ls : List (List UInt8)) : List UInt8 × List UInt8 := ls.foldl (fun s l => ((stepD s.1 (wordsD l)).1, s.2 ++ (stepD s.1 (wordsD l)).2)) st
noncomputable def deskD (s : List UInt8) : List UInt8 := if 65536 < s.length ∨ 200 < (linesD s).length then wrongD 2 ++ [10] else (foldD ([], []) (linesD s)).2
theorem foldD_snoc (st : List UInt8 × List UInt8) (ls : List (List UInt8)) (l : List UInt8) : foldD st (ls ++ [l]) = ((stepD (foldD st ls).1 (wordsD l)).1, (foldD st ls).2 ++ (stepD (foldD st ls).1 (wordsD l)).2) := by
  unfold foldD
  rw [List.foldl_append]
  rfl
theorem stepD_len (text : List UInt8) (h : text.length ≤ 4096) (ws : List (List UInt8)) : (stepD text ws).1.length ≤ 4096 := by
  unfold stepD
  split
  · exact h
  · split
    · exact h
    · split
      · split
        · exact h
        · simp; omega
      · split
        · simp
        · exact h

end Go.Proofs.YtiohbjnnfkadnaaGreatDoor

/-
  What the texts of a desk share: lists of numbers and of words in memory, the first place of a word, texts of bytes.
-/
namespace Go.Proofs.YtiohbjnnfkadnaaGreatDoor
open Go.RowKit Go.PlainAid
set_option linter.unusedVariables false
attribute [local go_sem ↓] Go.wp_at_zero Go.wp_at_succ

/-- A text of these bytes. -/
def sB (l : List UInt8) : ByteArray := ⟨l.toArray⟩
theorem sB_list (l : List UInt8) : (sB l).data.toList = l := by simp [sB]
theorem sB_size (l : List UInt8) : (sB l).size = l.length := by rw [size_list, sB_list]
theorem sB_of (s : ByteArray) : s = sB s.data.toList := list_inj (by rw [sB_list])
theorem sB_add (a b : List UInt8) : sB a ++ sB b = sB (a ++ b) := list_inj (by rw [ByteArray.data_append, Array.toList_append, sB_list, sB_list, sB_list])

theorem join_len (l : List Nat) (h : ∀ n ∈ l, n ≤ 18446744073709551615) : (saidD l).length ≤ 21 * l.length := by
  unfold saidD
  induction l with
  | nil => simp [joinD]
  | cons a r ih =>
    have h1 := dec_len (h a (List.mem_cons_self ..))
    have h2 := ih (fun n hn => h n (List.mem_cons_of_mem _ hn))
    cases r with
    | nil => simp only [List.map_cons, List.map_nil, joinD, List.length_cons, List.length_nil]; omega
    | cons b r =>
      simp only [List.map_cons, joinD, List.length_append, List.length_cons] at h2 ⊢
      omega
theorem said_snoc (l : List Nat) (z : Nat) : saidD (l ++ [z]) = if l = [] then Lib.decDigits z else saidD l ++ 32 :: Lib.decDigits z := by
  unfold saidD
  rw [List.map_append, List.map_cons, List.map_nil, joinD_snoc]
  by_cases h : l = []
  · subst h; simp
  · rw [if_neg (by simpa using h), if_neg h]

/-- A list of numbers that a call may read. -/
structure NLst (w : World) (ao : Option Addr) (n c : Nat) (l : List Nat) : Prop where
  len : l.length = n
  row : PRow w ao n (fOf l)
  rng : ∀ z ∈ l, z ≤ 9223372036854775807
  cap : n ≤ c
theorem NLst.kept {w w' : World} {ao : Option Addr} {n c : Nat} {l : List Nat} (h : NLst w ao n c l) (hb : Below w.heap.size w w') : NLst w' ao n c l := ⟨h.len, h.row.kept hb, h.rng, h.cap⟩
theorem NLst.nums {w : World} {ao : Option Addr} {n c : Nat} {l : List Nat} (h : NLst w ao n c l) : Nums (fOf l) := fun j => by
  unfold fOf
  rw [List.getD_eq_getElem?_getD]
  cases e : l[j]? with
  | none => simp
  | some z =>
    have := h.rng z (List.mem_of_getElem? e)
    simp only [Option.getD_some]
    omega

/-- What numbers tells, as lists. -/
def numsL (ps : List ByteArray) (w : World) (e : Ending) (w' : World) : Prop :=
  (e = .returned (.tuple #[.slice none 0 0, .bool false]) ∧ numsF (ps.map (·.data.toList)) = none ∧ Below w.heap.size w w') ∨
  (∃ ao n c l, e = .returned (.tuple #[.slice ao n c, .bool true]) ∧ numsF (ps.map (·.data.toList)) = some l ∧ NLst w' ao n c l ∧ n ≤ ps.length ∧ Below w.heap.size w w')
theorem sF_at {ps : List ByteArray} {j : Nat} (h : j < ps.length) : (ps.map (·.data.toList))[j]? = some (sF ps j).data.toList := by
  unfold sF
  rw [List.getElem?_map, List.getElem?_eq_getElem h]
  rfl

/-- What Index tells. -/
def idxOut (ps : List ByteArray) (n : Nat) (x : ByteArray) (w : World) (e : Ending) (w' : World) : Prop := ((e = .returned (.int .i64 (-1)) ∧ ∀ j, j < n → (sF ps j).data.toList ≠ x.data.toList) ∨ (∃ k : Nat, e = .returned (.int .i64 (k : Int)) ∧ k < n ∧ (sF ps k).data.toList = x.data.toList ∧ ∀ j, j < k → (sF ps j).data.toList ≠ x.data.toList)) ∧ Below w.heap.size w w'

set_option maxHeartbeats 2000000 in
set_option maxRecDepth 100000 in
/-- The first place of a word. -/
theorem rindex_any (ps : List ByteArray) (ao : Option Addr) (n c : Nat) (x : ByteArray) (w : World) (hn : ps.length = n) (hn2 : n ≤ 2000000) (hr : SLst w ao ps) :
    Calls Tryz.prog 43 #[.slice ao n c, .string x] w fun e w' => idxOut ps n x w e w' := by
  have HN := hid hn
  have HR := hid hr
  clear hn hr
  go_enter Tryz.func43, Tryz.ntmps43
  go_wp2_with fail
  go_loopg [8] n (fun q i wr => ∃ t : Nat, t ≤ n ∧ q = n - t ∧ i = .int .i64 (t : Int) ∧ Hid (∀ j, j < t → (sF ps j).data.toList ≠ x.data.toList) ∧ Hid (Below w.heap.size w wr))
  case atStart => exact ⟨0, by omega, rfl, rfl, hid (fun j hj => absurd hj (by omega)), hid (Below.refl _ _)⟩
  case round =>
    obtain ⟨t, htn, rfl, rfl, HJ, HB⟩ := hrel
    by_cases hlt : t < n
    · obtain ⟨bb, off, rfl, hr⟩ := (HR.out.kept HB.out) (by rw [HN.out]; omega)
      have c1 := hr t (by rw [HN.out]; exact hlt)
      have t0 : (0 : Int) ≤ (t : Int) := by omega
      have t1 : (t : Int) < (n : Int) := by omega
      obtain ⟨p, hp⟩ : ∃ p, sF ps t = p := ⟨_, rfl⟩
      have HP := hid hp
      rw [hp] at c1
      clear hr hp
      by_cases he : p.data.toList = x.data.toList
      · have e1 : (x.toList == p.toList) = true := by rw [beq_iff_eq, Lib.toList_data, Lib.toList_data]; exact he.symm
        have HE := hid he
        clear he
        go_wp2_with fail
        go_ret
        exact ⟨.inr ⟨t, rfl, hlt, by rw [HP.out]; exact HE.out, HJ.out⟩, HB.out⟩
      · have e1 : (x.toList == p.toList) = false := beq_eq_false_iff_ne.2 (by rw [Lib.toList_data, Lib.toList_data]; exact fun h => he h.symm)
        have HE := hid he
        clear he
        go_wp2_with fail
        go_roundg (n - (t + 1))
        case measure => go_light; omega
        case rel => exact ⟨t + 1, by omega, rfl, by go_num, hid (fun j hj => by
          by_cases e : j = t
          · subst e; rw [HP.out]; exact HE.out
          · exact HJ.out j (by omega)), HB⟩
    · have e : n = t := by omega
      have t1 : ¬ ((t : Int) < (n : Int)) := by omega
      go_wp2_with fail
      go_ret
      exact ⟨.inl ⟨rfl, fun j hj => HJ.out j (by omega)⟩, HB.out⟩

end Go.Proofs.YtiohbjnnfkadnaaGreatDoor

/-
  Contracts of desk's readNumbers, readTwoLists, tellError, tellNumber, tellNumbers, tellResult, tellHeld; they make new blocks and write nothing that was there.
-/
namespace Go.Proofs.YtiohbjnnfkadnaaGreatDoor
open Go.RowKit Go.PlainAid
set_option linter.unusedVariables false
attribute [local go_sem ↓] Go.wp_at_zero Go.wp_at_succ

set_option maxHeartbeats 4000000 in
set_option maxRecDepth 100000 in
theorem numbers_l (ps : List ByteArray) (ao : Option Addr) (n c : Nat) (w : World) (hn : ps.length = n) (hn2 : n ≤ 2000000) (hz : ∀ p ∈ ps, p.size ≤ 2000000) (hr : SLst w ao ps) (ht : DW w) :
    Calls Tryz.prog 61 #[.slice ao n c] w fun e w' => numsL ps w e w' := by
  have HN := hid hn
  have HR := hid hr
  have HT := hid ht
  have HZ := hid hz
  clear hn hr ht hz
  have hmk := run_make_row' (P := Tryz.prog) 55 60 (.int .u64 0) 8 Tryz.underlying55 Tryz.infoDn rfl .i64 .i64 n (by omega) (by omega)
  go_enter Tryz.func61, Tryz.ntmps61
  go_wp2_with fail
  clear hmk
  go_loopg [14] n (fun q i wr => ∃ (t : Nat) (l : List Nat), t ≤ n ∧ q = n - t ∧ i = .int .i64 (t : Int) ∧ Hid (IsNums ((ps.take t).map (·.data.toList)) l) ∧ Hid (Out w wr w.heap.size n (fun j => if j < t then fOf l j else 0)))
  case atStart => exact ⟨0, [], by omega, rfl, rfl, hid (by simpa using IsNums.nil), hid ((Out.start (Below.refl _ w) n 60).congr fun j _ => by rw [if_neg (by omega)])⟩
  case round =>
    obtain ⟨t, l, htn, rfl, rfl, HL, HO⟩ := hrel
    by_cases hlt : t < n
    · obtain ⟨bb, off, rfl, hr⟩ := (HR.out.kept HO.out.below) (by rw [HN.out]; omega)
      have c1 := hr t (by rw [HN.out]; exact hlt)
      have hlen : l.length = t := by rw [HL.out.len, List.length_map, List.length_take, HN.out]; omega
      have HLEN := hid hlen
      have HTK := hid (take_snoc (ps := ps) (t := t) (by rw [HN.out]; exact hlt))
      have HMEM := hid (sF_mem (ps := ps) (t := t) (by rw [HN.out]; exact hlt))
      obtain ⟨p, hp⟩ : ∃ p, sF ps t = p := ⟨_, rfl⟩
      rw [hp] at c1 HTK HMEM
      have hps := HZ.out p HMEM.out
      have HNU := hid (number_any p wr hps (HT.out.kept HO.out.below))
      have t0 : (0 : Int) ≤ (t : Int) := by omega
      have t1 : (t : Int) < (n : Int) := by omega
      clear hr hp hlen
      go_wp2_with fail
      refine (HNU.out).mono ?_
      rintro e w2 ⟨z, b, rfl, h1, h2, hz64, hb⟩
      have HO2 := hid (HO.out.kept hb)
      have H12 := hid (And.intro h1 h2)
      clear hb h1 h2 c1
      cases b with
      | false =>
        have HF : Hid (¬ ∃ l, IsNums (ps.map (·.data.toList)) l) := hid (fun ⟨l', hl'⟩ => by
          have := H12.out.2 (hl'.at (List.mem_map.2 ⟨p, HMEM.out, rfl⟩))
          cases this)
        clear H12
        go_wp2_with fail
        go_ret2
        exact .inl ⟨rfl, numsF_none HF.out, HO2.out.below⟩
      | true =>
        have HZN := hid (H12.out.1 rfl)
        have HL2 : Hid (IsNums ((ps.take (t + 1)).map (·.data.toList)) (l ++ [z])) := hid (by rw [HTK.out, List.map_append]; exact HL.out.snoc HZN.out)
        have c3 := HO2.out.cell t hlt
        have f3 := HO2.out.frozen t hlt
        rw [if_neg (by omega)] at c3
        have HS := hid ((HO2.out.store t (z : Int) hlt).congr (g := fun j => if j < t + 1 then fOf (l ++ [z]) j else 0) fun j _ => by
          have e1 := fOf_snoc l z
          rw [HLEN.out] at e1
          rcases Nat.lt_trichotomy j t with h | h | h
          · rw [if_neg (by omega), if_pos h, if_pos (by omega)]; exact fOf_snoc_lt l z (by rw [HLEN.out]; exact h)
          · subst h; rw [if_pos rfl, if_pos (by omega), e1]
          · rw [if_neg (by omega), if_neg (by omega), if_neg (by omega)])
        clear H12 HO2
        go_wp2_with fail
        go_roundg (n - (t + 1))
        case measure => go_light; omega
        case rel => exact ⟨t + 1, l ++ [z], by omega, rfl, by go_num, HL2, HS⟩
    · have e : n = t := by omega
      have t1 : ¬ ((t : Int) < (n : Int)) := by omega
      go_wp2_with fail
      go_ret2
      have e2 : ps.take t = ps := by rw [← e, ← HN.out]; exact List.take_length
      have hl := HL.out
      rw [e2] at hl
      have hlen : l.length = t := by rw [hl.len, List.length_map, HN.out]; exact e
      have hrow := HO.out.row
      rw [e] at hrow
      exact .inr ⟨_, t, t, l, rfl, numsF_some hl, ⟨hlen, PRow.of (hrow.congr fun j hj => by rw [if_pos (by omega)]), hl.2, Nat.le_refl _⟩, by rw [HN.out, e]; exact Nat.le_refl _, HO.out.below⟩

set_option maxRecDepth 100000 in
theorem tellE_any (x : Nat) (w : World) (hx : x ≤ 1000) (ht : DW w) :
    Calls Tryz.prog 12 #[.int .i64 (x : Int)] w fun e w' => e = .returned (.string (sB (wrongD x))) ∧ Below w.heap.size w w' := by
  have HF := hid (itoa_all x w (by omega) ht.ptab)
  have hl := dec_len (m := x) (by omega)
  have hd := sB_size (Lib.decDigits x)
  have HS : Hid ((⟨#[101, 114, 114, 111, 114, 32]⟩ : ByteArray) ++ sB (Lib.decDigits x) = sB (wrongD x)) := hid (by unfold wrongD; rw [← sB_add]; rfl)
  change Hid (Calls Tryz.prog 25 #[.int .i64 (x : Int)] w fun e w' => e = .returned (.string (sB (Lib.decDigits x))) ∧ Below w.heap.size w w') at HF
  generalize sB (Lib.decDigits x) = T at HF HS hd
  clear ht
  go_enter Tryz.func12, Tryz.ntmps12
  go_wp2_with (go_at_call 25; refine (HF.out).mono ?_; rintro e w' ⟨rfl, hb⟩; have HB := hid hb; clear hb)
  go_ret
  exact ⟨by rw [← HS.out]; rfl, HB.out⟩

set_option maxRecDepth 100000 in
theorem tellN_any (z : Nat) (w : World) (hz : z ≤ 18446744073709551615) (ht : DW w) :
    Calls Tryz.prog 62 #[.int .u64 (z : Int)] w fun e w' => e = .returned (.string (sB (Lib.decDigits z))) ∧ Below w.heap.size w w' := by
  have HF := hid (fmt_any z w (by omega) ht.ptab)
  change Hid (Calls Tryz.prog 83 #[.int .u64 (z : Int), .int .i64 10] w fun e w' => e = .returned (.string (sB (Lib.decDigits z))) ∧ Below w.heap.size w w') at HF
  clear ht
  go_enter Tryz.func62, Tryz.ntmps62
  go_wp2_with (go_at_call 83; refine (HF.out).mono ?_; rintro e w' ⟨rfl, hb⟩; have HB := hid hb; clear hb)
  go_ret
  exact ⟨rfl, HB.out⟩

theorem said_one (z : Nat) : saidD [z] = Lib.decDigits z := rfl

set_option maxRecDepth 100000 in
theorem tellR_ok (z : Nat) (w : World) (hz : z ≤ 18446744073709551615) (ht : DW w) :
    Calls Tryz.prog 65 #[.int .u64 (z : Int), .int .i64 0] w fun e w' => e = .returned (.string (sB (saidD [z]))) ∧ Below w.heap.size w w' := by
  have HF := hid (tellN_any z w hz ht)
  clear ht
  go_enter Tryz.func65, Tryz.ntmps65
  go_wp2_with (go_at_call 62; refine (HF.out).mono ?_; rintro e w' ⟨rfl, hb⟩; have HB := hid hb; clear hb)
  go_ret
  exact ⟨rfl, HB.out⟩
set_option maxRecDepth 100000 in
theorem tellR_no (z : Int) (x : Nat) (w : World) (hx : x ≤ 1000) (h0 : x ≠ 0) (ht : DW w) :
    Calls Tryz.prog 65 #[.int .u64 z, .int .i64 (x : Int)] w fun e w' => e = .returned (.string (sB (wrongD x))) ∧ Below w.heap.size w w' := by
  have HF := hid (tellE_any x w hx ht)
  have h1 : ((x : Int) != 0) = true := by simp; omega
  clear ht
  go_enter Tryz.func65, Tryz.ntmps65
  go_wp2_with (go_at_call 12; refine (HF.out).mono ?_; rintro e w' ⟨rfl, hb⟩; have HB := hid hb; clear hb)
  go_ret
  exact ⟨rfl, HB.out⟩

theorem tellH_any (b : Bool) (w : World) :
    Calls Tryz.prog 81 #[.bool b] w fun e w' => e = .returned (.string (sB (if b then [104, 111, 108, 100, 115] else [102, 97, 105, 108, 115]))) ∧ w' = w := by
  cases b
  all_goals
    go_enter Tryz.func81, Tryz.ntmps81
    go_wp2_with fail
    go_ret
    exact ⟨rfl, rfl⟩

/-! ### numbers, told as words -/

/-- A list of n words of the call's own at block V: k of them are stored. -/
structure SOut (w w' : World) (V n k : Nat) (F : Nat → ByteArray) : Prop where
  below : Below w.heap.size w w'
  cell : ∀ j, j < n → w'.cell? ⟨V, j, none⟩ = some (.string (if j < k then F j else ⟨#[]⟩))
  free : ∀ j, j < n → w'.frozen? ⟨V, j, none⟩ = false
  ge : w.heap.size ≤ V
  lt : V < w'.heap.size
theorem SOut.start {w : World} (n : Nat) (t : TypeId) (F : Nat → ByteArray) : SOut w (w.alloc (.cells (madeCells #[.string ⟨#[]⟩] n) t)) w.heap.size n 0 F :=
  ⟨(Below.refl _ _).alloc (Nat.le_refl _) _, fun j hj => by rw [World.cell?_alloc_new, if_neg (by omega)]; simp [madeCells, hj, Nat.mod_one], fun j _ => by rw [World.frozen?_alloc_new], Nat.le_refl _, by simp⟩
theorem SOut.kept {w w1 w2 : World} {V n k : Nat} {F : Nat → ByteArray} (h : SOut w w1 V n k F) (hb : Below w1.heap.size w1 w2) : SOut w w2 V n k F :=
  ⟨h.below.trans (hb.mono h.below.size), fun j hj => (hb.cell h.lt).trans (h.cell j hj), fun j hj => (hb.frozen h.lt).trans (h.free j hj), h.ge, Nat.lt_of_lt_of_le h.lt hb.size⟩
theorem SOut.put {w w1 : World} {V n k : Nat} {F : Nat → ByteArray} (h : SOut w w1 V n k F) (hk : k < n) (x : ByteArray) (hx : F k = x) : SOut w (w1.setCell ⟨V, k, none⟩ (.string x)) V n (k + 1) F := by
  refine ⟨h.below.setCell h.ge _, fun j hj => ?_, fun j hj => by rw [World.frozen?_setCell]; exact h.free j hj, h.ge, by rw [World.size_setCell]; exact h.lt⟩
  by_cases e : j = k
  · subst e
    rw [World.cell?_setCell_same _ _ _ (h.cell j hj), if_pos (by omega), hx]
  · rw [World.cell?_setCell_other _ _ _ _ (by intro e2; simp only [Addr.mk.injEq] at e2; omega), h.cell j hj]
    by_cases h2 : j < k
    · rw [if_pos h2, if_pos (by omega)]
    · rw [if_neg h2, if_neg (by omega)]
theorem Tryz.infoDs : (Tryz.prog.info? 9).map (fun i => (i.zero, i.size, i.bytes)) = some (some (.string ⟨#[]⟩), 1, 16) := by kernel_rfl

theorem lib_join : ∀ (l : List (List UInt8)), Lib.join l [32] = joinD l
  | [] => rfl
  | [x] => by rw [Lib.join_one]; rfl
  | x :: y :: r => by
    have ih := lib_join (y :: r)
    rw [Lib.join_cons] at ih ⊢
    show x ++ Lib.joinTail [32] (y :: r) = x ++ 32 :: joinD (y :: r)
    rw [← ih]
    rfl

theorem join_any (ps : List ByteArray) (ao : Option Addr) (n c : Nat) (w : World) (hn : ps.length = n) (hn2 : n ≤ 2000000) (hc : n ≤ c) (hl : (joinD (ps.map (·.data.toList))).length ≤ 140737488355328) (hr : SLst w ao ps) :
    Calls Tryz.prog 71 #[.slice ao n c, .string ⟨#[32]⟩] w fun e w' => e = .returned (.string (sB (joinD (ps.map (·.data.toList))))) ∧ Below w.heap.size w w' := by
  subst hn
  match ps, hn2, hc, hl, hr with
  | [], _, _, _, _ => exact (Tryz.join_none ao c ⟨#[32]⟩ w).mono fun e w' ⟨h1, h2⟩ => ⟨h1, h2 ▸ Below.refl _ _⟩
  | p :: r, hn2, hc, hl, hr =>
    obtain ⟨b, off, rfl, hcell⟩ := hr (by simp)
    have hj := lib_join ((p :: r).map (·.data.toList))
    refine (Tryz.join_at b off c (p :: r) ⟨#[32]⟩ w (fun j x hx => ?_) (World.block_lt_of_cell? w _ (hcell 0 (by simp))) (by omega) hc (by rw [show (⟨#[32]⟩ : ByteArray).data.toList = [32] from rfl, hj]; exact hl)).mono fun e w' ⟨h1, h2⟩ => ⟨?_, h2⟩
    · have hlt : j < (p :: r).length := (List.getElem?_eq_some_iff.1 hx).1
      have := hcell j hlt
      rw [this]
      unfold sF
      rw [hx]
      rfl
    · rw [h1, show (⟨#[32]⟩ : ByteArray).data.toList = [32] from rfl, hj]
      rfl

set_option maxHeartbeats 2000000 in
set_option maxRecDepth 100000 in
theorem tellNs_any (l : List Nat) (b off n c : Nat) (w : World) (hn : l.length = n) (hn1 : 1 ≤ n) (hn2 : n ≤ 100000) (hl : ∀ z ∈ l, z ≤ 18446744073709551615) (hr : Row w b off n (fOf l)) (ht : DW w) :
    Calls Tryz.prog 77 #[.slice (some ⟨b, off, none⟩) n c] w fun e w' => e = .returned (.string (sB (saidD l))) ∧ Below w.heap.size w w' := by
  have HN := hid hn
  have HR := hid hr
  have HT := hid ht
  have HL := hid hl
  clear hn hr ht hl
  have hmk := run_make_row' (P := Tryz.prog) 24 9 (.string ⟨#[]⟩) 16 Tryz.underlying24 Tryz.infoDs rfl .i64 .i64 n (by omega) (by omega)
  go_enter Tryz.func77, Tryz.ntmps77
  go_wp2_with fail
  clear hmk
  go_loopg [11] n (fun q i wr => ∃ t : Nat, t ≤ n ∧ q = n - t ∧ i = .int .i64 (t : Int) ∧ Hid (SOut w wr w.heap.size n t (fun j => sB (Lib.decDigits (l.getD j 0)))))
  case atStart => exact ⟨0, by omega, rfl, rfl, hid (SOut.start n _ _)⟩
  case round =>
    obtain ⟨t, htn, rfl, rfl, HO⟩ := hrel
    by_cases hlt : t < n
    · have c1 := (HR.out.kept HO.out.below (HR.out.lt hn1)) t hlt
      have t0 : (0 : Int) ≤ (t : Int) := by omega
      have t1 : (t : Int) < (n : Int) := by omega
      obtain ⟨z, hz⟩ : ∃ z, l.getD t 0 = z := ⟨_, rfl⟩
      have hzm : z ≤ 18446744073709551615 := by
        refine HL.out z ?_
        rw [← hz, List.getD_eq_getElem?_getD, List.getElem?_eq_getElem (show t < l.length by rw [HN.out]; exact hlt)]
        exact List.getElem_mem _
      have e1 : fOf l t = (z : Int) := by unfold fOf; rw [hz]
      rw [e1] at c1
      have HZ := hid hz
      have HF := hid (tellN_any z wr hzm (HT.out.kept HO.out.below))
      clear hz e1
      go_wp2_with fail
      refine (HF.out).mono ?_
      rintro e w2 ⟨rfl, hb⟩
      have HO2 := hid (HO.out.kept hb)
      have c3 := HO2.out.cell t hlt
      have f3 := HO2.out.free t hlt
      rw [if_neg (by omega)] at c3
      have HS := hid (HO2.out.put hlt (sB (Lib.decDigits z)) (by rw [HZ.out]))
      clear hb c1 HO2
      go_wp2_with fail
      go_roundg (n - (t + 1))
      case measure => go_light; omega
      case rel => exact ⟨t + 1, by omega, rfl, by go_num, HS⟩
    · have e : t = n := by omega
      subst e
      have t1 : ¬ ((t : Int) < (t : Int)) := by omega
      have hps : ((l.map fun z => sB (Lib.decDigits z)).map (·.data.toList)) = l.map Lib.decDigits := by
        rw [List.map_map]
        exact List.map_congr_left fun z _ => sB_list _
      have HJ := hid (join_any (l.map fun z => sB (Lib.decDigits z)) (some ⟨w.heap.size, 0, none⟩) t t wr (by rw [List.length_map, HN.out]) (by omega) (Nat.le_refl _) (by
        rw [hps]
        have := join_len l HL.out
        rw [HN.out] at this
        unfold saidD at this
        omega) (fun _ => ⟨_, _, rfl, fun i hi => by
          have hi2 : i < t := by rw [List.length_map, HN.out] at hi; exact hi
          rw [Nat.zero_add, HO.out.cell i hi2, if_pos hi2]
          unfold sF
          rw [List.getElem?_map, List.getD_eq_getElem?_getD, List.getElem?_eq_getElem (show i < l.length by rw [HN.out]; exact hi2)]
          rfl⟩))
      rw [hps] at HJ
      change Hid (Calls Tryz.prog 71 #[.slice (some ⟨w.heap.size, 0, none⟩) t t, .string ⟨#[32]⟩] wr fun e w' => e = .returned (.string (sB (saidD l))) ∧ Below wr.heap.size wr w') at HJ
      clear hps
      go_wp2_with fail
      refine (HJ.out).mono ?_
      rintro e w2 ⟨rfl, hb⟩
      have HB2 := hid (HO.out.below.trans (hb.mono HO.out.below.size))
      clear hb
      go_wp2_with fail
      go_ret
      exact ⟨rfl, HB2.out⟩

end Go.Proofs.YtiohbjnnfkadnaaGreatDoor

/-
  Contracts of desk's linesOf, wordsOf, readTwoLists; they make new blocks and write nothing that was there.
-/
namespace Go.Proofs.YtiohbjnnfkadnaaGreatDoor
open Go.RowKit Go.PlainAid
set_option linter.unusedVariables false
attribute [local go_sem ↓] Go.wp_at_zero Go.wp_at_succ

theorem pieces_size (b : UInt8) : ∀ (s : List UInt8), ∀ p ∈ piecesL b s, p.length ≤ s.length
  | [], p, hp => by simp [piecesL] at hp; subst hp; simp
  | x :: r, p, hp => by
    have ih := pieces_size b r
    rw [piecesL] at hp
    by_cases e : x = b
    · rw [if_pos e] at hp
      rcases List.mem_cons.1 hp with h | h
      · subst h; simp
      · have := ih p h; simp; omega
    · rw [if_neg e] at hp
      cases h : piecesL b r with
      | nil => exact absurd h (piecesL_ne b r)
      | cons q t =>
        rw [h] at hp ih
        rcases List.mem_cons.1 hp with h2 | h2
        · subst h2
          have := ih q (List.mem_cons_self ..)
          simp; omega
        · have := ih p (List.mem_cons_of_mem _ h2)
          simp; omega
theorem slst_new (w : World) (P : List ByteArray) (t : TypeId) : SLst (w.alloc (.cells (P.map Value.string).toArray t)) (some ⟨w.heap.size, 0, none⟩) P := fun _ => ⟨_, 0, rfl, fun j hj => by
  rw [Nat.zero_add, World.cell?_alloc_new]
  simp [sF, hj]⟩
/-- strings.Split at one byte, as a list of words. -/
def splOut (c : UInt8) (s : ByteArray) (w : World) (e : Ending) (w' : World) : Prop := ∃ (ps : List ByteArray) (m : Nat), e = .returned (.slice (some ⟨w.heap.size, 0, none⟩) (m + 1) (m + 1)) ∧ ps.length = m + 1 ∧ m ≤ s.size ∧ SLst w' (some ⟨w.heap.size, 0, none⟩) ps ∧ ps.map (·.data.toList) = piecesL c s.data.toList ∧ (∀ p ∈ ps, p.size ≤ s.size) ∧ Below w.heap.size w w'
theorem split_s (c : UInt8) (s : ByteArray) (w : World) (hs : s.size ≤ 2000000) (h : DW w) : Calls Tryz.prog 26 #[.string s, .string ⟨#[c]⟩] w fun e w' => splOut c s w e w' := by
  obtain ⟨M, hM⟩ := h.mx
  refine (Tryz.strings_Split s ⟨#[c]⟩ M w (by omega) hM (Nat.le_refl 1)).mono fun e w' ⟨h1, h2⟩ => ?_
  have hp := splitB_pieces c s
  refine ⟨Lib.splitB ⟨#[c]⟩ 0 (Lib.countB s ⟨#[c]⟩) s, Lib.countB s ⟨#[c]⟩, h1, splitB_count c s, Lib.countB_le ⟨#[c]⟩ (Nat.le_refl 1) s.size s (Nat.le_refl _), ?_, hp, fun p hp2 => ?_, ?_⟩
  · rw [h2]; exact slst_new _ _ _
  · rw [size_list, size_list]
    exact pieces_size c _ _ (by rw [← hp]; exact List.mem_map.2 ⟨p, hp2, rfl⟩)
  · rw [h2]; exact (Below.refl _ _).alloc (Nat.le_refl _) _

/-- What linesOf tells; what wordsOf tells. -/
def lnsOut (s : ByteArray) (V : Nat) (w : World) (e : Ending) (w' : World) : Prop := ∃ ao cap ls n, e = .returned (.slice ao n cap) ∧ ls.length = n ∧ n ≤ cap ∧ cap ≤ s.size + 1 ∧ SLst w' ao ls ∧ ls.map (·.data.toList) = linesD s.data.toList ∧ (∀ p ∈ ls, p.size ≤ s.size) ∧ Below V w w'
def wdsOut (s : ByteArray) (V : Nat) (w : World) (e : Ending) (w' : World) : Prop := ∃ ao n cap ps, e = .returned (.slice ao n cap) ∧ ps.length = n ∧ n ≤ cap ∧ cap ≤ maxLen ∧ SLst w' ao ps ∧ ps.map (·.data.toList) = wordsD s.data.toList ∧ (∀ p ∈ ps, p.size ≤ s.size ∧ p.data.toList ≠ []) ∧ n ≤ s.size + 1 ∧ (∀ b o, 0 < n → ao = some ⟨b, o, none⟩ → V ≤ b ∧ ∃ cs, w'.heap[b]? = some (.cells cs 9 (0, 0))) ∧ Below V w w'

set_option maxHeartbeats 2000000 in
set_option maxRecDepth 100000 in
theorem tlines_any (s : ByteArray) (w : World) (hs : s.size ≤ 2000000) (h : DW w) :
    Calls Tryz.prog 13 #[.string s] w fun e w' => lnsOut s w.heap.size w e w' := by
  have HSP := hid (split_s 10 s w hs h)
  clear h
  obtain ⟨V, hV⟩ : ∃ V, w.heap.size = V := ⟨_, rfl⟩
  unfold splOut at HSP
  rw [hV] at HSP ⊢
  go_enter Tryz.func13, Tryz.ntmps13
  go_wp2_with fail
  refine HSP.out.mono ?_
  rintro e w1 ⟨L, q, rfl, hLq, hqs, hsr, hpc, hszs, hb1⟩
  obtain ⟨Q, z, hqz⟩ := last_of (l := L) (by omega)
  have hq : Q.length = q := by rw [hqz, List.length_append] at hLq; simp at hLq; omega
  have cz : w1.cell? ⟨V, q, none⟩ = some (.string z) := by
    obtain ⟨b, off, e3, h3⟩ := hsr (by omega)
    cases e3
    have := h3 q (by omega)
    rw [Nat.zero_add] at this
    rw [this, hqz, ← hq]
    simp [sF]
  have HPC : Hid (piecesL 10 s.data.toList = Q.map (·.data.toList) ++ [z.data.toList]) := hid (by rw [← hpc, hqz]; simp)
  have HSR := hid hsr
  have HSZ := hid hszs
  have HB := hid hb1
  have HLQ := hid hLq
  have HQZ := hid hqz
  have HQ := hid hq
  clear hsr hszs hb1 hpc HSP hLq hqz hq hV
  have q0 : (0 : Int) ≤ (q : Int) := by omega
  have q1 : (q : Int) < (q : Int) + 1 := by omega
  have q2 : (q : Int) ≤ (q : Int) + 1 := by omega
  have q3 : IntKind.i64.wrap ((q : Int) + 1 - 1) = (q : Int) := by rw [show (q : Int) + 1 - 1 = (q : Int) from by omega]; exact IntWalk.i64_in _ (by omega)
  by_cases hz : z = ⟨#[]⟩
  · subst hz
    go_wp2_with fail
    go_ret
    refine ⟨some ⟨V, 0, none⟩, q + 1, Q, q, rfl, HQ.out, by omega, by omega, fun h0 => ?_, ?_, fun p hp => HSZ.out p (by rw [HQZ.out]; exact List.mem_append_left _ hp), HB.out⟩
    · obtain ⟨b, off, e3, h3⟩ := HSR.out (by rw [HLQ.out]; omega)
      refine ⟨b, off, e3, fun i hi => ?_⟩
      have h4 := h3 i (by rw [HLQ.out, ← HQ.out]; omega)
      rw [h4, HQZ.out]
      unfold sF
      simp [List.getElem?_append_left hi]
    · rw [linesD_of HPC.out, if_pos rfl]
  · have hzb : z.toList.isEmpty = false := not_empty hz
    go_wp2_with fail
    go_ret
    refine ⟨some ⟨V, 0, none⟩, q + 1, L, q + 1, rfl, HLQ.out, by omega, by omega, HSR.out, ?_, HSZ.out, HB.out⟩
    rw [linesD_of HPC.out, if_neg (fun h => hz (empty_of h)), HQZ.out]
    simp

set_option maxHeartbeats 2000000 in
set_option maxRecDepth 100000 in
theorem twords_any (s : ByteArray) (w : World) (hs : s.size ≤ 2000000) (h : DW w) :
    Calls Tryz.prog 14 #[.string s] w fun e w' => wdsOut s w.heap.size w e w' := by
  have HSP := hid (split_s 32 s w hs h)
  clear h
  obtain ⟨V, hV⟩ : ∃ V, w.heap.size = V := ⟨_, rfl⟩
  unfold splOut at HSP
  rw [hV] at HSP ⊢
  obtain ⟨i0, hi, hz0, hz1, hz2⟩ := info_parts Tryz.infoS
  have HI := hid (And.intro hi (And.intro hz0 (And.intro hz1 hz2)))
  clear hi hz0 hz1 hz2
  go_enter Tryz.func14, Tryz.ntmps14
  go_wp2_with fail
  refine HSP.out.mono ?_
  rintro e w1 ⟨L, q, rfl, hLq, hqs, hsr, hpc, hszs, hb1⟩
  have HPC := hid hpc
  have HSR := hid hsr
  have HSZ := hid hszs
  have HB := hid hb1
  have HVS : Hid (V ≤ w1.heap.size) := hid (by have := hb1.size; omega)
  obtain ⟨n, hn⟩ : ∃ n, q + 1 = n := ⟨_, rfl⟩
  have hn2 : ((q : Int) + 1) = (n : Int) := by omega
  rw [hn] at hLq ⊢
  have HN := hid hLq
  have n1 : 1 ≤ n := by omega
  have n2 : n ≤ s.size + 1 := by omega
  clear hpc hszs hsr hb1 HSP hLq hV
  obtain ⟨B, hB⟩ : ∃ B, w1.heap.size = B := ⟨_, rfl⟩
  have HBE := hid hB
  have HN2 := hid hn
  clear hB hn hn2 hqs
  go_wp2_with fail
  go_loopg [3, 9] n (fun q v i wr => ∃ (t : Nat) (u : Value), t ≤ n ∧ q = n - t ∧ v = u ∧ i = .int .i64 (t : Int) ∧ Hid (OwnS wr B u (fulls (L.take t))) ∧ Hid (Below B w1 wr))
  case atStart => exact ⟨0, _, by omega, rfl, rfl, rfl, hid (World.ownsRow_nil w1 B 9 1), hid (Below.refl _ _)⟩
  case round =>
    obtain ⟨t, u, ht, rfl, hu, rfl, HO, HBw⟩ := hrel
    obtain rfl := hu.symm
    by_cases hlt : t < n
    · obtain ⟨bb, off, e9, hr⟩ := (HSR.out.kept (by rw [HBE.out]; exact HBw.out)) (by rw [HN.out]; omega)
      cases e9
      have c1 := hr t (by rw [HN.out]; exact hlt)
      rw [Nat.zero_add] at c1
      have HNX := hid (fulls_next (ps := L) (t := t) (by rw [HN.out]; exact hlt))
      have hfl := fulls_len L t
      obtain ⟨p, hp⟩ : ∃ p, sF L t = p := ⟨_, rfl⟩
      rw [hp] at c1 HNX
      obtain ⟨k, hk⟩ : ∃ k, (fulls (L.take t)).length = k := ⟨_, rfl⟩
      rw [hk] at hfl
      have HOn : Hid (wr.ownsRow B 9 1 u k ((fulls (L.take t)).map Value.string)) := hid (by have := HO.out; unfold OwnS at this; rw [hk] at this; exact this)
      have HK := hid hk
      have hsz : B ≤ wr.heap.size := by have h1 := HBw.out.size; have h2 := HBE.out; omega
      have t0 : (0 : Int) ≤ (t : Int) := by omega
      have t1 : (t : Int) < (n : Int) := by omega
      clear hr hp hk
      by_cases hz : p = ⟨#[]⟩
      · subst hz
        go_wp2_with fail
        go_roundg (n - (t + 1))
        case measure => go_light; omega
        case rel => exact ⟨t + 1, _, by omega, rfl, rfl, by go_num, hid (by first | (rw [HNX.out, if_pos rfl]; exact HO.out) | (rw [HNX.out]; exact HO.out)), HBw⟩
      · have hzb : p.toList.isEmpty = false := not_empty hz
        have hzl : ¬ p.data.toList = [] := fun h => hz (empty_of h)
        go_wp2_with (at_builtin; refine wpList_append_lies _ rfl _ _ 24 rfl B 9 i0 (.string ByteArray.empty) 1 16 Tryz.underlying24 HI.out.1 HI.out.2.1 HI.out.2.2.1 HI.out.2.2.2 rfl (by decide) _ _ _ rfl (World.ownsRow.alloc HOn.out _) ⟨wr.heap.size, 0, none⟩ 1 1 [.string p] rfl rfl (snews wr _ _) (sone _) (by omega) (by unfold maxLen; omega) (by omega) (by simp; omega) (wr.heap.size + 1) (by simp) ?_)
        intro g2 c2 w6 hown2 hgrow2 hat2 hlt2
        have HO6 : Hid (OwnS w6 B (.slice (some ⟨g2, 0, none⟩) (k + 1) c2) (fulls (L.take t) ++ [p])) := hid (by unfold OwnS; rw [List.length_append, HK.out, List.map_append]; exact hown2)
        have HB6 : Hid (Below B w1 w6) := hid ((HBw.out.alloc hsz _).grown hgrow2 (by simp; omega) (by intro k hk; exact (HOn.out.lt k hk).1))
        clear hown2 hgrow2 hat2 hlt2
        go_wp2_with fail
        go_roundg (n - (t + 1))
        case measure => go_light; omega
        case rel => exact ⟨t + 1, _, by omega, rfl, rfl, by go_num, hid (by rw [HNX.out, if_neg hzl]; exact HO6.out), HB6⟩
    · have e : n = t := by omega
      have t1 : ¬ ((t : Int) < (n : Int)) := by omega
      go_wp2_with fail
      go_ret
      have e2 : L.take t = L := by rw [← e, ← HN.out]; exact List.take_length
      have ho := HO.out
      rw [e2] at ho
      obtain ⟨ao, cap, hv, hcap, hsl⟩ := SLst.of ho
      have hcm : cap ≤ maxLen := by
        rcases ho.2 with ⟨h1, _⟩ | ⟨g, cp, cur, h1, _, _, _, h2, _⟩
        · have h3 := hv.symm.trans h1
          simp only [Value.slice.injEq] at h3
          omega
        · have h3 := hv.symm.trans h1
          simp only [Value.slice.injEq] at h3
          omega
      exact ⟨ao, _, cap, fulls L, congrArg Ending.returned hv, rfl, hcap, hcm, hsl, fulls_words HPC.out, fun p hp => ⟨HSZ.out p (List.mem_filter.1 hp).1, fun h => by have := (List.mem_filter.1 hp).2; rw [h] at this; simp at this⟩, Nat.le_trans (List.length_filter_le _ L) (by rw [HN.out]; exact n2), (fun b o h0 hb => by
        rcases ho.2 with ⟨h1, h2⟩ | ⟨g, cp, cur, h1, h2, h7, _⟩
        · omega
        · have h3 := hv.symm.trans h1
          simp only [Value.slice.injEq] at h3
          have h4 := hb.symm.trans h3.1
          simp only [Option.some.injEq, Addr.mk.injEq] at h4
          have h5 := HVS.out
          have h6 := HBE.out
          exact ⟨by omega, cur, by rw [h4.1]; exact h7⟩), HB.out.trans (HBw.out.mono (by rw [← HBE.out]; exact HVS.out))⟩

/-! ### two lists -/

/-- The numbers ahead of the first slash and behind it. -/
noncomputable def twoA (ws : List (List UInt8)) : Option (List Nat × List Nat) := (cutW ws).bind fun p => (numsF p.1).bind fun a => (numsF p.2).map fun b => (a, b)
def twoL (ps : List ByteArray) (w : World) (e : Ending) (w' : World) : Prop :=
  (∃ xa xn xc ya yn yc, e = .returned (.tuple #[.slice xa xn xc, .slice ya yn yc, .bool false]) ∧ twoA (ps.map (·.data.toList)) = none ∧ Below w.heap.size w w') ∨
  (∃ ao n c a bo m d b, e = .returned (.tuple #[.slice ao n c, .slice bo m d, .bool true]) ∧ twoA (ps.map (·.data.toList)) = some (a, b) ∧ NLst w' ao n c a ∧ NLst w' bo m d b ∧ n ≤ ps.length ∧ m ≤ ps.length ∧ Below w.heap.size w w')
theorem SLst.take {w : World} {ao : Option Addr} {ps : List ByteArray} (h : SLst w ao ps) (k : Nat) : SLst w ao (ps.take k) := fun h0 => by
  rw [List.length_take] at h0
  obtain ⟨b, off, e, h1⟩ := h (by omega)
  refine ⟨b, off, e, fun i hi => ?_⟩
  rw [List.length_take] at hi
  rw [h1 i (by omega)]
  unfold sF
  rw [List.getElem?_take, if_pos (by omega)]
theorem SLst.drop {w : World} {b off : Nat} {ps : List ByteArray} (h : SLst w (some ⟨b, off, none⟩) ps) (k : Nat) : SLst w (some ⟨b, off + k, none⟩) (ps.drop k) := fun h0 => by
  rw [List.length_drop] at h0
  obtain ⟨b2, off2, e, h1⟩ := h (by omega)
  cases e
  refine ⟨_, _, rfl, fun i hi => ?_⟩
  rw [List.length_drop] at hi
  have := h1 (k + i) (by omega)
  rw [Nat.add_assoc, this]
  unfold sF
  rw [List.getElem?_drop]

set_option maxHeartbeats 2000000 in
set_option maxRecDepth 100000 in
theorem two_any (ps : List ByteArray) (ao : Option Addr) (n c : Nat) (w : World) (hn : ps.length = n) (hn2 : n ≤ 2000000) (hc : n ≤ c) (hcm : c ≤ maxLen) (hz : ∀ p ∈ ps, p.size ≤ 2000000) (hr : SLst w ao ps) (h : DW w) :
    Calls Tryz.prog 69 #[.slice ao n c] w fun e w' => twoL ps w e w' := by
  have HIX := hid (rindex_any ps ao n c ⟨#[47]⟩ w hn hn2 hr)
  have HN := hid hn
  have HR := hid hr
  have HT := hid h
  have HZ := hid hz
  clear hn hr h hz
  unfold maxLen at hcm
  go_enter Tryz.func69, Tryz.ntmps69
  go_wp2_with fail
  refine (HIX.out).mono ?_
  rintro e w1 ⟨⟨rfl, hno⟩ | ⟨k, rfl, hk, hat, hfirst⟩, hb⟩
  · have HB := hid hb
    have HF : Hid (twoA (ps.map (·.data.toList)) = none) := hid (by
      unfold twoA
      rw [cutW_none fun x hx => ?_]
      · rfl
      · obtain ⟨j, hj, e⟩ := List.mem_iff_getElem.1 hx
        rw [List.length_map] at hj
        have h1 := hno j (by rw [← HN.out]; exact hj)
        have h2 := sF_at (ps := ps) hj
        rw [List.getElem?_eq_getElem (by rw [List.length_map]; exact hj)] at h2
        rw [← e, Option.some.inj h2]
        exact h1)
    clear hb hno HIX
    go_wp2_with fail
    go_ret3
    exact .inl ⟨_, _, _, _, _, _, rfl, HF.out, HB.out⟩
  · obtain ⟨b, off, rfl, _⟩ := HR.out (by rw [HN.out]; omega)
    have HCW : Hid (cutW (ps.map (·.data.toList)) = some ((ps.take k).map (·.data.toList), (ps.drop (k + 1)).map (·.data.toList))) := hid (by
      have h1 : ∀ j, j < k → (ps.map (·.data.toList))[j]? ≠ some [47] := fun j hj => by
        rw [sF_at (by rw [HN.out]; omega)]
        exact fun e => hfirst j hj (Option.some.inj e)
      have h2 : (ps.map (·.data.toList))[k]? = some [47] := by rw [sF_at (by rw [HN.out]; omega), hat]
      rw [cutW_at h1 h2, List.map_take, List.map_drop])
    have k0 : (0 : Int) ≤ (k : Int) := by omega
    have k1 : (k : Int) ≤ (c : Int) := by omega
    have k2 : IntKind.i64.wrap ((k : Int) + 1) = (k : Int) + 1 := IntWalk.i64_in _ (by omega)
    have k3 : (k : Int) + 1 ≤ (n : Int) := by omega
    have HB1 := hid hb
    have HA := hid (numbers_l (ps.take k) (some ⟨b, off, none⟩) k c w1 (by rw [List.length_take, HN.out]; omega) (by omega) (fun p hp => HZ.out p (List.mem_of_mem_take hp)) ((HR.out.kept hb).take k) (HT.out.kept hb))
    clear hb hat hfirst HIX
    go_wp2_with fail
    refine (HA.out).mono ?_
    rintro e w2 (⟨rfl, hnf, hb2⟩ | ⟨ax, m, cx, l, rfl, hnf, hnl, hmk, hb2⟩)
    · have HB2 := hid (HB1.out.trans (hb2.mono HB1.out.size))
      have HF : Hid (twoA (ps.map (·.data.toList)) = none) := hid (by
        unfold twoA
        rw [HCW.out]
        show (numsF ((ps.take k).map (·.data.toList))).bind _ = none
        rw [hnf]
        rfl)
      clear hb2 hnf HA
      go_wp2_with fail
      go_ret3
      exact .inl ⟨_, _, _, _, _, _, rfl, HF.out, HB2.out⟩
    · have HB2 := hid (HB1.out.trans (hb2.mono HB1.out.size))
      have HNF := hid hnf
      have HNL := hid hnl
      have HA2 := hid (fun ax2 cx2 (hs : SLst w2 ax2 (ps.drop (k + 1))) => numbers_l (ps.drop (k + 1)) ax2 (n - (k + 1)) cx2 w2 (by rw [List.length_drop, HN.out]) (by omega) (fun p hp => HZ.out p (List.mem_of_mem_drop hp)) hs (HT.out.kept HB2.out))
      clear hb2 hnf hnl HA
      rcases Nat.lt_or_ge (k + 1) c with hcc | hcc
      · have hne : ¬ c = k + 1 := by omega
        have HA3 := hid (HA2.out (some ⟨b, off + (k + 1), none⟩) (c - (k + 1)) ((HR.out.kept HB2.out).drop (k + 1)))
        go_wp2_with fail
        refine (HA3.out).mono ?_
        rintro e w3 (⟨rfl, hnf, hb3⟩ | ⟨ax2, m2, cx2, l2, rfl, hnf, hnl, hmk2, hb3⟩)
        · have HB3 := hid (HB2.out.trans (hb3.mono HB2.out.size))
          have HF : Hid (twoA (ps.map (·.data.toList)) = none) := hid (by
            unfold twoA
            rw [HCW.out]
            show (numsF ((ps.take k).map (·.data.toList))).bind _ = none
            rw [HNF.out]
            show (numsF ((ps.drop (k + 1)).map (·.data.toList))).map _ = none
            rw [hnf]
            rfl)
          clear hb3 hnf HA2
          go_wp2_with fail
          go_ret3
          exact .inl ⟨_, _, _, _, _, _, rfl, HF.out, HB3.out⟩
        · have HB3 := hid (HB2.out.trans (hb3.mono HB2.out.size))
          have HF : Hid (twoA (ps.map (·.data.toList)) = some (l, l2)) := hid (by
            unfold twoA
            rw [HCW.out]
            show (numsF ((ps.take k).map (·.data.toList))).bind _ = _
            rw [HNF.out]
            show (numsF ((ps.drop (k + 1)).map (·.data.toList))).map _ = _
            rw [hnf]
            rfl)
          have HNL1 := hid (HNL.out.kept hb3)
          have HNL2 := hid hnl
          have HMM : Hid (m ≤ ps.length ∧ m2 ≤ ps.length) := hid (by
            rw [List.length_take] at hmk
            rw [List.length_drop] at hmk2
            omega)
          clear hb3 hnf hnl HA2 HNL hmk hmk2
          go_wp2_with fail
          go_ret3
          exact .inr ⟨_, _, _, l, _, _, _, l2, rfl, HF.out, HNL1.out, HNL2.out, HMM.out.1, HMM.out.2, HB3.out⟩
      · obtain rfl : c = k + 1 := by omega
        have HA3 := hid (HA2.out (some ⟨b, off, none⟩) 0 (fun h0 => by rw [List.length_drop, HN.out] at h0; omega))
        rw [show n - (k + 1) = 0 from by omega] at HA3
        go_wp2_with fail
        refine (HA3.out).mono ?_
        rintro e w3 (⟨rfl, hnf, hb3⟩ | ⟨ax2, m2, cx2, l2, rfl, hnf, hnl, hmk2, hb3⟩)
        · have HB3 := hid (HB2.out.trans (hb3.mono HB2.out.size))
          have HF : Hid (twoA (ps.map (·.data.toList)) = none) := hid (by
            unfold twoA
            rw [HCW.out]
            show (numsF ((ps.take k).map (·.data.toList))).bind _ = none
            rw [HNF.out]
            show (numsF ((ps.drop (k + 1)).map (·.data.toList))).map _ = none
            rw [hnf]
            rfl)
          clear hb3 hnf HA2
          go_wp2_with fail
          go_ret3
          exact .inl ⟨_, _, _, _, _, _, rfl, HF.out, HB3.out⟩
        · have HB3 := hid (HB2.out.trans (hb3.mono HB2.out.size))
          have HF : Hid (twoA (ps.map (·.data.toList)) = some (l, l2)) := hid (by
            unfold twoA
            rw [HCW.out]
            show (numsF ((ps.take k).map (·.data.toList))).bind _ = _
            rw [HNF.out]
            show (numsF ((ps.drop (k + 1)).map (·.data.toList))).map _ = _
            rw [hnf]
            rfl)
          have HNL1 := hid (HNL.out.kept hb3)
          have HNL2 := hid hnl
          have HMM : Hid (m ≤ ps.length ∧ m2 ≤ ps.length) := hid (by
            rw [List.length_take] at hmk
            rw [List.length_drop] at hmk2
            omega)
          clear hb3 hnf hnl HA2 HNL hmk hmk2
          go_wp2_with fail
          go_ret3
          exact .inr ⟨_, _, _, l, _, _, _, l2, rfl, HF.out, HNL1.out, HNL2.out, HMM.out.1, HMM.out.2, HB3.out⟩

end Go.Proofs.YtiohbjnnfkadnaaGreatDoor

/-
  Contracts of desk's ofTwo, inverse, ofTable, eval; they make new blocks and write nothing that was there.
-/
namespace Go.Proofs.YtiohbjnnfkadnaaGreatDoor
open Go.RowKit Go.PlainAid
set_option linter.unusedVariables false
attribute [local go_sem ↓] Go.wp_at_zero Go.wp_at_succ

/-- What a line is answered. -/
def dansOut (t v : List UInt8) (ps : List ByteArray) (w : World) (e : Ending) (w' : World) : Prop := e = .returned (.string (sB (ansD t v (ps.map (·.data.toList))))) ∧ Below w.heap.size w w'
theorem argsP {v : List UInt8} {ws : List (List UInt8)} (h : ¬ (v = [101, 118, 97, 108] ∨ v = [112, 114, 111, 118, 101])) : argsF v ws = (numsF ws).map fun a => (a, []) := by unfold argsF; rw [if_neg h]
theorem argsT {v : List UInt8} {ws : List (List UInt8)} (h : v = [101, 118, 97, 108] ∨ v = [112, 114, 111, 118, 101]) : argsF v ws = twoA ws := by unfold argsF twoA; rw [if_pos h]
theorem fOfR {l : List Nat} (h : ∀ z ∈ l, z ≤ 9223372036854775807) (j : Nat) : 0 ≤ fOf l j ∧ fOf l j ≤ 9223372036854775807 := by
  unfold fOf
  rw [List.getD_eq_getElem?_getD]
  cases e : l[j]? with
  | none => simp
  | some z =>
    have := h z (List.mem_of_getElem? e)
    simp only [Option.getD_some]
    omega
theorem dkeep {W W' : World} (hb : Below W.heap.size W W') {a : Addr} {v : Value} (h : W.cell? a = some v) : W'.cell? a = some v := (hb.cell (World.block_lt_of_cell? W _ h)).trans h
theorem tellN_int (x : Int) (w : World) (x0 : 0 ≤ x) (x1 : x ≤ 18446744073709551615) (ht : DW w) :
    Calls Tryz.prog 62 #[.int .u64 x] w fun e w' => e = .returned (.string (sB (saidD [x.toNat]))) ∧ Below w.heap.size w w' := by
  have h := tellN_any x.toNat w (by omega) ht
  rw [show ((x.toNat : Nat) : Int) = x from by omega] at h
  exact h
theorem tellR_int (x : Int) (w : World) (x0 : 0 ≤ x) (x1 : x ≤ 18446744073709551615) (ht : DW w) :
    Calls Tryz.prog 65 #[.int .u64 x, .int .i64 0] w fun e w' => e = .returned (.string (sB (saidD [x.toNat]))) ∧ Below w.heap.size w w' := by
  have h := tellR_ok x.toNat w (by omega) ht
  rw [show ((x.toNat : Nat) : Int) = x from by omega] at h
  exact h

set_option maxHeartbeats 4000000 in
set_option maxRecDepth 100000 in
theorem oft_add (t : List UInt8) (ps : List ByteArray) (ao : Option Addr) (n c : Nat) (w : World) (ht : DW w) (hn : ps.length = n) (hn2 : n ≤ 2000000) (hz : ∀ p ∈ ps, p.size ≤ 2000000) (hr : SLst w ao ps) :
    Calls Tryz.prog 28 #[.slice ao n c, .func (.func 29) #[] #[]] w fun e w' => dansOut t [97, 100, 100] ps w e w' := by
  have HNU := hid (numbers_l ps ao n c w hn hn2 hz hr ht)
  have HW3 := hid (fun W (h : Below w.heap.size w W) => tellE_any 3 W (by omega) (ht.kept h))
  have HT := hid ht
  have HAR : Hid (argsF [97, 100, 100] (ps.map (·.data.toList)) = (numsF (ps.map (·.data.toList))).map fun a => (a, [])) := hid (argsP (by decide))
  clear ht hn hz hr
  go_enter Tryz.func28, Tryz.ntmps28
  go_wp2_with fail
  refine (HNU.out).mono ?_
  intro e w1 hh
  rcases hh with ⟨rfl, hf, hb⟩ | ⟨a1, m, cc, l, rfl, hf, hl, hle, hb⟩
  · have HB1 := hid hb
    have HA : Hid (sB (wrongD 3) = sB (ansD t [97, 100, 100] (ps.map (·.data.toList)))) := hid (by unfold ansD; rw [HAR.out, hf]; rfl)
    rw [HA.out] at HW3
    clear hb hf HNU
    go_wp2_with fail
    refine (HW3.out _ HB1.out).mono ?_
    rintro e w2 ⟨rfl, hb⟩
    have HB2 := hid (HB1.out.trans (hb.mono HB1.out.size))
    clear hb
    go_wp2_with fail
    go_ret
    exact ⟨rfl, HB2.out⟩
  · have HB1 := hid hb
    have HL := hid hl
    have HAN : Hid (ansD t [97, 100, 100] (ps.map (·.data.toList)) = ansN t [97, 100, 100] l []) := hid (by unfold ansD; rw [HAR.out, hf]; rfl)
    clear hb hl hf HNU
    by_cases hm : m = 2
    · subst hm
      obtain ⟨ba, oa, rfl, hra⟩ := HL.out.row (by omega)
      have c0 := hra 0 (by omega)
      have c1 := hra 1 (by omega)
      rw [Nat.add_zero] at c0
      have g0 := fOfR HL.out.rng 0
      have g1 := fOfR HL.out.rng 1
      have HA : Hid (sB (saidD [(addQ (fOf l 0) (fOf l 1)).toNat]) = sB (ansD t [97, 100, 100] (ps.map (·.data.toList)))) := hid (by
        rw [HAN.out]
        unfold ansN
        rw [if_pos rfl, if_pos HL.out.len])
      have hx := addQ_rng (fOf l 0) (fOf l 1)
      generalize fOf l 0 = x at c0 g0 HA hx
      generalize fOf l 1 = y at c1 g1 HA hx
      obtain ⟨z, hz⟩ : ∃ z, addQ x y = z := ⟨_, rfl⟩
      rw [hz] at HA hx
      have HS1 := hid (fun W (h : Below w.heap.size w W) => tellN_int z W hx.1 (by omega) (HT.out.kept h))
      rw [HA.out] at HS1
      have HOP : Hid (∀ W, Calls Tryz.prog 29 #[.int .u64 x, .int .u64 y] W fun e w' => e = .returned (.int .u64 z) ∧ w' = W) := hid (fun W => by rw [← hz]; exact add_any x y W g0.1 (by omega) g1.1 (by omega))
      have HK : Hid (∀ W, Below w1.heap.size w1 W → W.cell? ⟨ba, oa, none⟩ = some (.int .u64 x) ∧ W.cell? ⟨ba, oa + 1, none⟩ = some (.int .u64 y)) := hid (fun W hb => ⟨dkeep hb c0, dkeep hb c1⟩)
      clear hra hz
      go_wp2_with fail
      go_region_held3 (fun W => W.cell? ⟨ba, oa, none⟩ = some (.int .u64 x) ∧ W.cell? ⟨ba, oa + 1, none⟩ = some (.int .u64 y)) (first | assumption | exact ⟨c0, c1⟩ | exact hz2) (first
        | (go_at_call 29; refine (HOP.out _).mono ?_; rintro e w' ⟨rfl, hw⟩; obtain rfl := hw.symm)
        | (go_at_call 62; refine (HS1.out _ (by first | exact HB1.out | exact HB1.out.drew)).mono ?_; rintro e w2 ⟨rfl, hb⟩; have hbw : Below w1.heap.size w1 w2 := (by first | exact hb | exact (Below.refl _ w1).drew.trans hb); have HB2 := hid (HB1.out.trans (hbw.mono HB1.out.size)); have hz2 : w2.cell? ⟨ba, oa, none⟩ = some (.int .u64 x) ∧ w2.cell? ⟨ba, oa + 1, none⟩ = some (.int .u64 y) := HK.out _ hbw; clear hb hbw))
      go_wp2_with fail
      go_ret
      exact ⟨rfl, HB2.out⟩
    · have HA : Hid (sB (wrongD 3) = sB (ansD t [97, 100, 100] (ps.map (·.data.toList)))) := hid (by
        rw [HAN.out]
        unfold ansN
        rw [if_pos rfl, if_neg (by rw [HL.out.len]; exact hm)])
      have hm2 : ((m : Int) != 2) = true := bne_iff_ne.2 (by omega)
      rw [HA.out] at HW3
      go_wp2_with fail
      refine (HW3.out _ HB1.out).mono ?_
      rintro e w2 ⟨rfl, hb⟩
      have HB2 := hid (HB1.out.trans (hb.mono HB1.out.size))
      clear hb
      go_wp2_with fail
      go_ret
      exact ⟨rfl, HB2.out⟩

set_option maxHeartbeats 4000000 in
set_option maxRecDepth 100000 in
theorem oft_sub (t : List UInt8) (ps : List ByteArray) (ao : Option Addr) (n c : Nat) (w : World) (ht : DW w) (hn : ps.length = n) (hn2 : n ≤ 2000000) (hz : ∀ p ∈ ps, p.size ≤ 2000000) (hr : SLst w ao ps) :
    Calls Tryz.prog 28 #[.slice ao n c, .func (.func 30) #[] #[]] w fun e w' => dansOut t [115, 117, 98] ps w e w' := by
  have HNU := hid (numbers_l ps ao n c w hn hn2 hz hr ht)
  have HW3 := hid (fun W (h : Below w.heap.size w W) => tellE_any 3 W (by omega) (ht.kept h))
  have HT := hid ht
  have HAR : Hid (argsF [115, 117, 98] (ps.map (·.data.toList)) = (numsF (ps.map (·.data.toList))).map fun a => (a, [])) := hid (argsP (by decide))
  clear ht hn hz hr
  go_enter Tryz.func28, Tryz.ntmps28
  go_wp2_with fail
  refine (HNU.out).mono ?_
  intro e w1 hh
  rcases hh with ⟨rfl, hf, hb⟩ | ⟨a1, m, cc, l, rfl, hf, hl, hle, hb⟩
  · have HB1 := hid hb
    have HA : Hid (sB (wrongD 3) = sB (ansD t [115, 117, 98] (ps.map (·.data.toList)))) := hid (by unfold ansD; rw [HAR.out, hf]; rfl)
    rw [HA.out] at HW3
    clear hb hf HNU
    go_wp2_with fail
    refine (HW3.out _ HB1.out).mono ?_
    rintro e w2 ⟨rfl, hb⟩
    have HB2 := hid (HB1.out.trans (hb.mono HB1.out.size))
    clear hb
    go_wp2_with fail
    go_ret
    exact ⟨rfl, HB2.out⟩
  · have HB1 := hid hb
    have HL := hid hl
    have HAN : Hid (ansD t [115, 117, 98] (ps.map (·.data.toList)) = ansN t [115, 117, 98] l []) := hid (by unfold ansD; rw [HAR.out, hf]; rfl)
    clear hb hl hf HNU
    by_cases hm : m = 2
    · subst hm
      obtain ⟨ba, oa, rfl, hra⟩ := HL.out.row (by omega)
      have c0 := hra 0 (by omega)
      have c1 := hra 1 (by omega)
      rw [Nat.add_zero] at c0
      have g0 := fOfR HL.out.rng 0
      have g1 := fOfR HL.out.rng 1
      have HA : Hid (sB (saidD [(subQ (fOf l 0) (fOf l 1)).toNat]) = sB (ansD t [115, 117, 98] (ps.map (·.data.toList)))) := hid (by
        rw [HAN.out]
        unfold ansN
        rw [if_neg (by decide), if_pos rfl, if_pos HL.out.len])
      have hx := subQ_rng (fOf l 0) (fOf l 1)
      generalize fOf l 0 = x at c0 g0 HA hx
      generalize fOf l 1 = y at c1 g1 HA hx
      obtain ⟨z, hz⟩ : ∃ z, subQ x y = z := ⟨_, rfl⟩
      rw [hz] at HA hx
      have HS1 := hid (fun W (h : Below w.heap.size w W) => tellN_int z W hx.1 (by omega) (HT.out.kept h))
      rw [HA.out] at HS1
      have HOP : Hid (∀ W, Calls Tryz.prog 30 #[.int .u64 x, .int .u64 y] W fun e w' => e = .returned (.int .u64 z) ∧ w' = W) := hid (fun W => by rw [← hz]; exact sub_any x y W g0.1 (by omega) g1.1 (by omega))
      have HK : Hid (∀ W, Below w1.heap.size w1 W → W.cell? ⟨ba, oa, none⟩ = some (.int .u64 x) ∧ W.cell? ⟨ba, oa + 1, none⟩ = some (.int .u64 y)) := hid (fun W hb => ⟨dkeep hb c0, dkeep hb c1⟩)
      clear hra hz
      go_wp2_with fail
      go_region_held3 (fun W => W.cell? ⟨ba, oa, none⟩ = some (.int .u64 x) ∧ W.cell? ⟨ba, oa + 1, none⟩ = some (.int .u64 y)) (first | assumption | exact ⟨c0, c1⟩ | exact hz2) (first
        | (go_at_call 30; refine (HOP.out _).mono ?_; rintro e w' ⟨rfl, hw⟩; obtain rfl := hw.symm)
        | (go_at_call 62; refine (HS1.out _ (by first | exact HB1.out | exact HB1.out.drew)).mono ?_; rintro e w2 ⟨rfl, hb⟩; have hbw : Below w1.heap.size w1 w2 := (by first | exact hb | exact (Below.refl _ w1).drew.trans hb); have HB2 := hid (HB1.out.trans (hbw.mono HB1.out.size)); have hz2 : w2.cell? ⟨ba, oa, none⟩ = some (.int .u64 x) ∧ w2.cell? ⟨ba, oa + 1, none⟩ = some (.int .u64 y) := HK.out _ hbw; clear hb hbw))
      go_wp2_with fail
      go_ret
      exact ⟨rfl, HB2.out⟩
    · have HA : Hid (sB (wrongD 3) = sB (ansD t [115, 117, 98] (ps.map (·.data.toList)))) := hid (by
        rw [HAN.out]
        unfold ansN
        rw [if_neg (by decide), if_pos rfl, if_neg (by rw [HL.out.len]; exact hm)])
      have hm2 : ((m : Int) != 2) = true := bne_iff_ne.2 (by omega)
      rw [HA.out] at HW3
      go_wp2_with fail
      refine (HW3.out _ HB1.out).mono ?_
      rintro e w2 ⟨rfl, hb⟩
      have HB2 := hid (HB1.out.trans (hb.mono HB1.out.size))
      clear hb
      go_wp2_with fail
      go_ret
      exact ⟨rfl, HB2.out⟩

set_option maxHeartbeats 4000000 in
set_option maxRecDepth 100000 in
theorem oft_mul (t : List UInt8) (ps : List ByteArray) (ao : Option Addr) (n c : Nat) (w : World) (ht : DW w) (hn : ps.length = n) (hn2 : n ≤ 2000000) (hz : ∀ p ∈ ps, p.size ≤ 2000000) (hr : SLst w ao ps) :
    Calls Tryz.prog 28 #[.slice ao n c, .func (.func 31) #[] #[]] w fun e w' => dansOut t [109, 117, 108] ps w e w' := by
  have HNU := hid (numbers_l ps ao n c w hn hn2 hz hr ht)
  have HW3 := hid (fun W (h : Below w.heap.size w W) => tellE_any 3 W (by omega) (ht.kept h))
  have HT := hid ht
  have HAR : Hid (argsF [109, 117, 108] (ps.map (·.data.toList)) = (numsF (ps.map (·.data.toList))).map fun a => (a, [])) := hid (argsP (by decide))
  clear ht hn hz hr
  go_enter Tryz.func28, Tryz.ntmps28
  go_wp2_with fail
  refine (HNU.out).mono ?_
  intro e w1 hh
  rcases hh with ⟨rfl, hf, hb⟩ | ⟨a1, m, cc, l, rfl, hf, hl, hle, hb⟩
  · have HB1 := hid hb
    have HA : Hid (sB (wrongD 3) = sB (ansD t [109, 117, 108] (ps.map (·.data.toList)))) := hid (by unfold ansD; rw [HAR.out, hf]; rfl)
    rw [HA.out] at HW3
    clear hb hf HNU
    go_wp2_with fail
    refine (HW3.out _ HB1.out).mono ?_
    rintro e w2 ⟨rfl, hb⟩
    have HB2 := hid (HB1.out.trans (hb.mono HB1.out.size))
    clear hb
    go_wp2_with fail
    go_ret
    exact ⟨rfl, HB2.out⟩
  · have HB1 := hid hb
    have HL := hid hl
    have HAN : Hid (ansD t [109, 117, 108] (ps.map (·.data.toList)) = ansN t [109, 117, 108] l []) := hid (by unfold ansD; rw [HAR.out, hf]; rfl)
    clear hb hl hf HNU
    by_cases hm : m = 2
    · subst hm
      obtain ⟨ba, oa, rfl, hra⟩ := HL.out.row (by omega)
      have c0 := hra 0 (by omega)
      have c1 := hra 1 (by omega)
      rw [Nat.add_zero] at c0
      have g0 := fOfR HL.out.rng 0
      have g1 := fOfR HL.out.rng 1
      have HA : Hid (sB (saidD [(mulQ (fOf l 0) (fOf l 1)).toNat]) = sB (ansD t [109, 117, 108] (ps.map (·.data.toList)))) := hid (by
        rw [HAN.out]
        unfold ansN
        rw [if_neg (by decide), if_neg (by decide), if_pos rfl, if_pos HL.out.len])
      have hx := mulQ_rng (fOf l 0) (fOf l 1)
      generalize fOf l 0 = x at c0 g0 HA hx
      generalize fOf l 1 = y at c1 g1 HA hx
      obtain ⟨z, hz⟩ : ∃ z, mulQ x y = z := ⟨_, rfl⟩
      rw [hz] at HA hx
      have HS1 := hid (fun W (h : Below w.heap.size w W) => tellN_int z W hx.1 (by omega) (HT.out.kept h))
      rw [HA.out] at HS1
      have HOP : Hid (∀ W, Calls Tryz.prog 31 #[.int .u64 x, .int .u64 y] W fun e w' => e = .returned (.int .u64 z) ∧ w' = W) := hid (fun W => by rw [← hz]; exact mul_any x y W g0.1 (by omega) g1.1 (by omega))
      have HK : Hid (∀ W, Below w1.heap.size w1 W → W.cell? ⟨ba, oa, none⟩ = some (.int .u64 x) ∧ W.cell? ⟨ba, oa + 1, none⟩ = some (.int .u64 y)) := hid (fun W hb => ⟨dkeep hb c0, dkeep hb c1⟩)
      clear hra hz
      go_wp2_with fail
      go_region_held3 (fun W => W.cell? ⟨ba, oa, none⟩ = some (.int .u64 x) ∧ W.cell? ⟨ba, oa + 1, none⟩ = some (.int .u64 y)) (first | assumption | exact ⟨c0, c1⟩ | exact hz2) (first
        | (go_at_call 31; refine (HOP.out _).mono ?_; rintro e w' ⟨rfl, hw⟩; obtain rfl := hw.symm)
        | (go_at_call 62; refine (HS1.out _ (by first | exact HB1.out | exact HB1.out.drew)).mono ?_; rintro e w2 ⟨rfl, hb⟩; have hbw : Below w1.heap.size w1 w2 := (by first | exact hb | exact (Below.refl _ w1).drew.trans hb); have HB2 := hid (HB1.out.trans (hbw.mono HB1.out.size)); have hz2 : w2.cell? ⟨ba, oa, none⟩ = some (.int .u64 x) ∧ w2.cell? ⟨ba, oa + 1, none⟩ = some (.int .u64 y) := HK.out _ hbw; clear hb hbw))
      go_wp2_with fail
      go_ret
      exact ⟨rfl, HB2.out⟩
    · have HA : Hid (sB (wrongD 3) = sB (ansD t [109, 117, 108] (ps.map (·.data.toList)))) := hid (by
        rw [HAN.out]
        unfold ansN
        rw [if_neg (by decide), if_neg (by decide), if_pos rfl, if_neg (by rw [HL.out.len]; exact hm)])
      have hm2 : ((m : Int) != 2) = true := bne_iff_ne.2 (by omega)
      rw [HA.out] at HW3
      go_wp2_with fail
      refine (HW3.out _ HB1.out).mono ?_
      rintro e w2 ⟨rfl, hb⟩
      have HB2 := hid (HB1.out.trans (hb.mono HB1.out.size))
      clear hb
      go_wp2_with fail
      go_ret
      exact ⟨rfl, HB2.out⟩

set_option maxHeartbeats 4000000 in
set_option maxRecDepth 100000 in
theorem oft_pow (t : List UInt8) (ps : List ByteArray) (ao : Option Addr) (n c : Nat) (w : World) (ht : DW w) (hn : ps.length = n) (hn2 : n ≤ 2000000) (hz : ∀ p ∈ ps, p.size ≤ 2000000) (hr : SLst w ao ps) :
    Calls Tryz.prog 28 #[.slice ao n c, .func (.func 32) #[] #[]] w fun e w' => dansOut t [112, 111, 119] ps w e w' := by
  have HNU := hid (numbers_l ps ao n c w hn hn2 hz hr ht)
  have HW3 := hid (fun W (h : Below w.heap.size w W) => tellE_any 3 W (by omega) (ht.kept h))
  have HT := hid ht
  have HAR : Hid (argsF [112, 111, 119] (ps.map (·.data.toList)) = (numsF (ps.map (·.data.toList))).map fun a => (a, [])) := hid (argsP (by decide))
  clear ht hn hz hr
  go_enter Tryz.func28, Tryz.ntmps28
  go_wp2_with fail
  refine (HNU.out).mono ?_
  intro e w1 hh
  rcases hh with ⟨rfl, hf, hb⟩ | ⟨a1, m, cc, l, rfl, hf, hl, hle, hb⟩
  · have HB1 := hid hb
    have HA : Hid (sB (wrongD 3) = sB (ansD t [112, 111, 119] (ps.map (·.data.toList)))) := hid (by unfold ansD; rw [HAR.out, hf]; rfl)
    rw [HA.out] at HW3
    clear hb hf HNU
    go_wp2_with fail
    refine (HW3.out _ HB1.out).mono ?_
    rintro e w2 ⟨rfl, hb⟩
    have HB2 := hid (HB1.out.trans (hb.mono HB1.out.size))
    clear hb
    go_wp2_with fail
    go_ret
    exact ⟨rfl, HB2.out⟩
  · have HB1 := hid hb
    have HL := hid hl
    have HAN : Hid (ansD t [112, 111, 119] (ps.map (·.data.toList)) = ansN t [112, 111, 119] l []) := hid (by unfold ansD; rw [HAR.out, hf]; rfl)
    clear hb hl hf HNU
    by_cases hm : m = 2
    · subst hm
      obtain ⟨ba, oa, rfl, hra⟩ := HL.out.row (by omega)
      have c0 := hra 0 (by omega)
      have c1 := hra 1 (by omega)
      rw [Nat.add_zero] at c0
      have g0 := fOfR HL.out.rng 0
      have g1 := fOfR HL.out.rng 1
      have HA : Hid (sB (saidD [(powQ (fOf l 0) (fOf l 1).toNat).toNat]) = sB (ansD t [112, 111, 119] (ps.map (·.data.toList)))) := hid (by
        rw [HAN.out]
        unfold ansN
        rw [if_neg (by decide), if_neg (by decide), if_neg (by decide), if_pos rfl, if_pos HL.out.len])
      have hx := powQ_rng (fOf l 0) (fOf l 1).toNat
      generalize fOf l 0 = x at c0 g0 HA hx
      generalize fOf l 1 = y at c1 g1 HA hx
      obtain ⟨z, hz⟩ : ∃ z, powQ x y.toNat = z := ⟨_, rfl⟩
      rw [hz] at HA hx
      have HS1 := hid (fun W (h : Below w.heap.size w W) => tellN_int z W hx.1 (by omega) (HT.out.kept h))
      rw [HA.out] at HS1
      have HOP : Hid (∀ W, Calls Tryz.prog 32 #[.int .u64 x, .int .u64 y] W fun e w' => e = .returned (.int .u64 z) ∧ w' = W) := hid (fun W => by rw [← hz]; exact pow_any x y W g0.1 (by omega) g1.1 (by omega))
      have HK : Hid (∀ W, Below w1.heap.size w1 W → W.cell? ⟨ba, oa, none⟩ = some (.int .u64 x) ∧ W.cell? ⟨ba, oa + 1, none⟩ = some (.int .u64 y)) := hid (fun W hb => ⟨dkeep hb c0, dkeep hb c1⟩)
      clear hra hz
      go_wp2_with fail
      go_region_held3 (fun W => W.cell? ⟨ba, oa, none⟩ = some (.int .u64 x) ∧ W.cell? ⟨ba, oa + 1, none⟩ = some (.int .u64 y)) (first | assumption | exact ⟨c0, c1⟩ | exact hz2) (first
        | (go_at_call 32; refine (HOP.out _).mono ?_; rintro e w' ⟨rfl, hw⟩; obtain rfl := hw.symm)
        | (go_at_call 62; refine (HS1.out _ (by first | exact HB1.out | exact HB1.out.drew)).mono ?_; rintro e w2 ⟨rfl, hb⟩; have hbw : Below w1.heap.size w1 w2 := (by first | exact hb | exact (Below.refl _ w1).drew.trans hb); have HB2 := hid (HB1.out.trans (hbw.mono HB1.out.size)); have hz2 : w2.cell? ⟨ba, oa, none⟩ = some (.int .u64 x) ∧ w2.cell? ⟨ba, oa + 1, none⟩ = some (.int .u64 y) := HK.out _ hbw; clear hb hbw))
      go_wp2_with fail
      go_ret
      exact ⟨rfl, HB2.out⟩
    · have HA : Hid (sB (wrongD 3) = sB (ansD t [112, 111, 119] (ps.map (·.data.toList)))) := hid (by
        rw [HAN.out]
        unfold ansN
        rw [if_neg (by decide), if_neg (by decide), if_neg (by decide), if_pos rfl, if_neg (by rw [HL.out.len]; exact hm)])
      have hm2 : ((m : Int) != 2) = true := bne_iff_ne.2 (by omega)
      rw [HA.out] at HW3
      go_wp2_with fail
      refine (HW3.out _ HB1.out).mono ?_
      rintro e w2 ⟨rfl, hb⟩
      have HB2 := hid (HB1.out.trans (hb.mono HB1.out.size))
      clear hb
      go_wp2_with fail
      go_ret
      exact ⟨rfl, HB2.out⟩

set_option maxHeartbeats 4000000 in
set_option maxRecDepth 100000 in
theorem dinv_any (t : List UInt8) (ps : List ByteArray) (ao : Option Addr) (n c : Nat) (w : World) (ht : DW w) (hn : ps.length = n) (hn2 : n ≤ 2000000) (hz : ∀ p ∈ ps, p.size ≤ 2000000) (hr : SLst w ao ps) :
    Calls Tryz.prog 33 #[.slice ao n c] w fun e w' => dansOut t [105, 110, 118] ps w e w' := by
  have HNU := hid (numbers_l ps ao n c w hn hn2 hz hr ht)
  have HW3 := hid (fun W (h : Below w.heap.size w W) => tellE_any 3 W (by omega) (ht.kept h))
  have HT := hid ht
  have HAR : Hid (argsF [105, 110, 118] (ps.map (·.data.toList)) = (numsF (ps.map (·.data.toList))).map fun a => (a, [])) := hid (argsP (by decide))
  clear ht hn hz hr
  go_enter Tryz.func33, Tryz.ntmps33
  go_wp2_with fail
  refine (HNU.out).mono ?_
  intro e w1 hh
  rcases hh with ⟨rfl, hf, hb⟩ | ⟨a1, m, cc, l, rfl, hf, hl, hle, hb⟩
  · have HB1 := hid hb
    have HA : Hid (sB (wrongD 3) = sB (ansD t [105, 110, 118] (ps.map (·.data.toList)))) := hid (by unfold ansD; rw [HAR.out, hf]; rfl)
    rw [HA.out] at HW3
    clear hb hf HNU
    go_wp2_with fail
    refine (HW3.out _ HB1.out).mono ?_
    rintro e w2 ⟨rfl, hb⟩
    have HB2 := hid (HB1.out.trans (hb.mono HB1.out.size))
    clear hb
    go_wp2_with fail
    go_ret
    exact ⟨rfl, HB2.out⟩
  · have HB1 := hid hb
    have HL := hid hl
    have HAN : Hid (ansD t [105, 110, 118] (ps.map (·.data.toList)) = ansN t [105, 110, 118] l []) := hid (by unfold ansD; rw [HAR.out, hf]; rfl)
    clear hb hl hf HNU
    by_cases hm : m = 1
    · subst hm
      obtain ⟨ba, oa, rfl, hra⟩ := HL.out.row (by omega)
      have c0 := hra 0 (by omega)
      rw [Nat.add_zero] at c0
      have g0 := fOfR HL.out.rng 0
      by_cases h0 : nrm (fOf l 0) = 0
      · have HA : Hid (sB (wrongD 1) = sB (ansD t [105, 110, 118] (ps.map (·.data.toList)))) := hid (by
          rw [HAN.out]
          unfold ansN
          rw [if_neg (by decide), if_neg (by decide), if_neg (by decide), if_neg (by decide), if_pos rfl, if_pos HL.out.len, if_pos h0])
        generalize fOf l 0 = x at c0 g0 h0
        have HIV := hid (inv_zero x w1 g0.1 (by omega) h0)
        have HTR := hid (tellR_no 0 1 w1 (by omega) (by omega) (HT.out.kept HB1.out))
        rw [HA.out] at HTR
        clear hra h0
        go_wp2_with (go_at_call 66; refine (HIV.out).mono ?_; rintro e w' ⟨rfl, hw⟩; obtain rfl := hw.symm)
        refine (HTR.out).mono ?_
        rintro e w2 ⟨rfl, hb⟩
        have HB2 := hid (HB1.out.trans (hb.mono HB1.out.size))
        clear hb
        go_wp2_with fail
        go_ret
        exact ⟨rfl, HB2.out⟩
      · have HA : Hid (sB (saidD [(invQ (fOf l 0)).toNat]) = sB (ansD t [105, 110, 118] (ps.map (·.data.toList)))) := hid (by
          rw [HAN.out]
          unfold ansN
          rw [if_neg (by decide), if_neg (by decide), if_neg (by decide), if_neg (by decide), if_pos rfl, if_pos HL.out.len, if_neg h0])
        have hx := invQ_rng (fOf l 0)
        generalize fOf l 0 = x at c0 g0 h0 hx HA
        have HIV := hid (inv_some x w1 g0.1 (by omega) h0)
        generalize invQ x = z at HA hx HIV
        have HTR := hid (tellR_int z w1 hx.1 (by omega) (HT.out.kept HB1.out))
        rw [HA.out] at HTR
        clear hra h0
        go_wp2_with (go_at_call 66; refine (HIV.out).mono ?_; rintro e w' ⟨rfl, hw⟩; obtain rfl := hw.symm)
        refine (HTR.out).mono ?_
        rintro e w2 ⟨rfl, hb⟩
        have HB2 := hid (HB1.out.trans (hb.mono HB1.out.size))
        clear hb
        go_wp2_with fail
        go_ret
        exact ⟨rfl, HB2.out⟩
    · have HA : Hid (sB (wrongD 3) = sB (ansD t [105, 110, 118] (ps.map (·.data.toList)))) := hid (by
        rw [HAN.out]
        unfold ansN
        rw [if_neg (by decide), if_neg (by decide), if_neg (by decide), if_neg (by decide), if_pos rfl, if_neg (by rw [HL.out.len]; exact hm)])
      have hm2 : ((m : Int) != 1) = true := bne_iff_ne.2 (by omega)
      rw [HA.out] at HW3
      go_wp2_with fail
      refine (HW3.out _ HB1.out).mono ?_
      rintro e w2 ⟨rfl, hb⟩
      have HB2 := hid (HB1.out.trans (hb.mono HB1.out.size))
      clear hb
      go_wp2_with fail
      go_ret
      exact ⟨rfl, HB2.out⟩

set_option maxHeartbeats 4000000 in
set_option maxRecDepth 100000 in
theorem oftab_sum (t : List UInt8) (ps : List ByteArray) (ao : Option Addr) (n c : Nat) (w : World) (ht : DW w) (hn : ps.length = n) (hn2 : n ≤ 2000000) (hz : ∀ p ∈ ps, p.size ≤ 2000000) (hr : SLst w ao ps) :
    Calls Tryz.prog 34 #[.slice ao n c, .func (.func 35) #[] #[]] w fun e w' => dansOut t [115, 117, 109] ps w e w' := by
  have hps : ps.length = n := hn
  have HNU := hid (numbers_l ps ao n c w hn hn2 hz hr ht)
  have HW3 := hid (fun W (h : Below w.heap.size w W) => tellE_any 3 W (by omega) (ht.kept h))
  have HT := hid ht
  have HAR : Hid (argsF [115, 117, 109] (ps.map (·.data.toList)) = (numsF (ps.map (·.data.toList))).map fun a => (a, [])) := hid (argsP (by decide))
  clear ht hn hz hr
  go_enter Tryz.func34, Tryz.ntmps34
  go_wp2_with fail
  refine (HNU.out).mono ?_
  intro e w1 hh
  rcases hh with ⟨rfl, hf, hb⟩ | ⟨a1, m, cc, l, rfl, hf, hl, hle, hb⟩
  · have HB1 := hid hb
    have HA : Hid (sB (wrongD 3) = sB (ansD t [115, 117, 109] (ps.map (·.data.toList)))) := hid (by unfold ansD; rw [HAR.out, hf]; rfl)
    rw [HA.out] at HW3
    clear hb hf HNU
    go_wp2_with fail
    refine (HW3.out _ HB1.out).mono ?_
    rintro e w2 ⟨rfl, hb⟩
    have HB2 := hid (HB1.out.trans (hb.mono HB1.out.size))
    clear hb
    go_wp2_with fail
    go_ret
    exact ⟨rfl, HB2.out⟩
  · have HB1 := hid hb
    have HL := hid hl
    have HAN : Hid (ansD t [115, 117, 109] (ps.map (·.data.toList)) = ansN t [115, 117, 109] l []) := hid (by unfold ansD; rw [HAR.out, hf]; rfl)
    clear hb hl hf HNU
    have hmx : m ≤ maxLen := by unfold maxLen; omega
    by_cases hk : ∃ k, k ≤ 8 ∧ m = 2 ^ k
    · obtain ⟨k, hk8, hmk⟩ := hk
      have hm1 : 1 ≤ m := by rw [hmk]; exact Nat.one_le_two_pow
      obtain ⟨ba, oa, rfl, hra⟩ := HL.out.row (by omega)
      have HA : Hid (sB (saidD [(ofK (sK (fun j => kk (fOf l j)) m)).toNat]) = sB (ansD t [115, 117, 109] (ps.map (·.data.toList)))) := hid (by
        rw [HAN.out]
        unfold ansN
        rw [if_neg (by decide), if_neg (by decide), if_neg (by decide), if_neg (by decide), if_neg (by decide), if_neg (by decide), if_pos rfl, HL.out.len, varsF_some hk8 hmk])
      have HOP := hid (sum_ok ba oa k m cc (fOf l) w1 hk8 hmk (HT.out.kept HB1.out).tab hra HL.out.nums)
      obtain ⟨z, hz⟩ : ∃ z, ofK (sK (fun j => kk (fOf l j)) m) = z := ⟨_, rfl⟩
      have hx : 0 ≤ z ∧ z ≤ 18446744073709551615 := by rw [← hz]; exact ofK_u64 _
      rw [hz] at HA HOP
      clear hz hra hmk
      go_wp2_with fail
      refine (HOP.out).mono ?_
      rintro e w2 ⟨rfl, hb⟩
      have HB2 : Hid (Below w.heap.size w w2) := hid (hb ▸ HB1.out)
      have HTR := hid (tellR_int z w2 hx.1 hx.2 (HT.out.kept HB2.out))
      rw [HA.out] at HTR
      clear hb
      go_wp2_with fail
      refine (HTR.out).mono ?_
      rintro e w3 ⟨rfl, hb⟩
      have HB3 := hid (HB2.out.trans (hb.mono HB2.out.size))
      clear hb
      go_wp2_with fail
      go_ret
      exact ⟨rfl, HB3.out⟩
    · have hno : ∀ k, k ≤ 8 → m ≠ 2 ^ k := fun k h1 h2 => hk ⟨k, h1, h2⟩
      have HA : Hid (sB (wrongD 4) = sB (ansD t [115, 117, 109] (ps.map (·.data.toList)))) := hid (by
        rw [HAN.out]
        unfold ansN
        rw [if_neg (by decide), if_neg (by decide), if_neg (by decide), if_neg (by decide), if_neg (by decide), if_neg (by decide), if_pos rfl, HL.out.len, varsF_none hno])
      have HOP := hid (sum_bad a1 m cc w1 hno hmx)
      clear hno hk
      go_wp2_with fail
      refine (HOP.out).mono ?_
      rintro e w2 ⟨rfl, hb⟩
      have HB2 : Hid (Below w.heap.size w w2) := hid (hb ▸ HB1.out)
      have HTR := hid (tellR_no 0 4 w2 (by omega) (by omega) (HT.out.kept HB2.out))
      rw [HA.out] at HTR
      clear hb
      go_wp2_with fail
      refine (HTR.out).mono ?_
      rintro e w3 ⟨rfl, hb⟩
      have HB3 := hid (HB2.out.trans (hb.mono HB2.out.size))
      clear hb
      go_wp2_with fail
      go_ret
      exact ⟨rfl, HB3.out⟩

set_option maxHeartbeats 4000000 in
set_option maxRecDepth 100000 in
theorem oftab_root (t : List UInt8) (ps : List ByteArray) (ao : Option Addr) (n c : Nat) (w : World) (ht : DW w) (hn : ps.length = n) (hn2 : n ≤ 2000000) (hz : ∀ p ∈ ps, p.size ≤ 2000000) (hr : SLst w ao ps) :
    Calls Tryz.prog 34 #[.slice ao n c, .func (.func 36) #[] #[]] w fun e w' => dansOut t [114, 111, 111, 116] ps w e w' := by
  have hps : ps.length = n := hn
  have HNU := hid (numbers_l ps ao n c w hn hn2 hz hr ht)
  have HW3 := hid (fun W (h : Below w.heap.size w W) => tellE_any 3 W (by omega) (ht.kept h))
  have HT := hid ht
  have HAR : Hid (argsF [114, 111, 111, 116] (ps.map (·.data.toList)) = (numsF (ps.map (·.data.toList))).map fun a => (a, [])) := hid (argsP (by decide))
  clear ht hn hz hr
  go_enter Tryz.func34, Tryz.ntmps34
  go_wp2_with fail
  refine (HNU.out).mono ?_
  intro e w1 hh
  rcases hh with ⟨rfl, hf, hb⟩ | ⟨a1, m, cc, l, rfl, hf, hl, hle, hb⟩
  · have HB1 := hid hb
    have HA : Hid (sB (wrongD 3) = sB (ansD t [114, 111, 111, 116] (ps.map (·.data.toList)))) := hid (by unfold ansD; rw [HAR.out, hf]; rfl)
    rw [HA.out] at HW3
    clear hb hf HNU
    go_wp2_with fail
    refine (HW3.out _ HB1.out).mono ?_
    rintro e w2 ⟨rfl, hb⟩
    have HB2 := hid (HB1.out.trans (hb.mono HB1.out.size))
    clear hb
    go_wp2_with fail
    go_ret
    exact ⟨rfl, HB2.out⟩
  · have HB1 := hid hb
    have HL := hid hl
    have HAN : Hid (ansD t [114, 111, 111, 116] (ps.map (·.data.toList)) = ansN t [114, 111, 111, 116] l []) := hid (by unfold ansD; rw [HAR.out, hf]; rfl)
    clear hb hl hf HNU
    have hmx : m ≤ maxLen := by unfold maxLen; omega
    by_cases hk : ∃ k, k ≤ 8 ∧ m = 2 ^ k
    · obtain ⟨k, hk8, hmk⟩ := hk
      have hm1 : 1 ≤ m := by rw [hmk]; exact Nat.one_le_two_pow
      obtain ⟨ba, oa, rfl, hra⟩ := HL.out.row (by omega)
      have HA : Hid (sB (saidD [(rootQ k (fOf l)).toNat]) = sB (ansD t [114, 111, 111, 116] (ps.map (·.data.toList)))) := hid (by
        rw [HAN.out]
        unfold ansN
        rw [if_neg (by decide), if_neg (by decide), if_neg (by decide), if_neg (by decide), if_neg (by decide), if_neg (by decide), if_neg (by decide), if_pos rfl, HL.out.len, varsF_some hk8 hmk])
      have HOP := hid (troot_any k m ba oa cc (fOf l) w1 hk8 hmk (HT.out.kept HB1.out).tab hra HL.out.nums)
      obtain ⟨z, hz⟩ : ∃ z, rootQ k (fOf l) = z := ⟨_, rfl⟩
      have hx : 0 ≤ z ∧ z ≤ 18446744073709551615 := by rw [← hz]; exact ⟨(rootQ_rng k (fOf l)).1, Int.le_trans (rootQ_rng k (fOf l)).2 (by omega)⟩
      rw [hz] at HA HOP
      clear hz hra hmk
      go_wp2_with fail
      refine (HOP.out).mono ?_
      rintro e w2 ⟨rfl, hb⟩
      have HB2 : Hid (Below w.heap.size w w2) := hid (HB1.out.trans (hb.mono HB1.out.size))
      have HTR := hid (tellR_int z w2 hx.1 hx.2 (HT.out.kept HB2.out))
      rw [HA.out] at HTR
      clear hb
      go_wp2_with fail
      refine (HTR.out).mono ?_
      rintro e w3 ⟨rfl, hb⟩
      have HB3 := hid (HB2.out.trans (hb.mono HB2.out.size))
      clear hb
      go_wp2_with fail
      go_ret
      exact ⟨rfl, HB3.out⟩
    · have hno : ∀ k, k ≤ 8 → m ≠ 2 ^ k := fun k h1 h2 => hk ⟨k, h1, h2⟩
      have HA : Hid (sB (wrongD 4) = sB (ansD t [114, 111, 111, 116] (ps.map (·.data.toList)))) := hid (by
        rw [HAN.out]
        unfold ansN
        rw [if_neg (by decide), if_neg (by decide), if_neg (by decide), if_neg (by decide), if_neg (by decide), if_neg (by decide), if_neg (by decide), if_pos rfl, HL.out.len, varsF_none hno])
      have HOP := hid (troot_form a1 m cc w1 hno hmx)
      clear hno hk
      go_wp2_with fail
      refine (HOP.out).mono ?_
      rintro e w2 ⟨rfl, hb⟩
      have HB2 : Hid (Below w.heap.size w w2) := hid (HB1.out.trans (hb.mono HB1.out.size))
      have HTR := hid (tellR_no 0 4 w2 (by omega) (by omega) (HT.out.kept HB2.out))
      rw [HA.out] at HTR
      clear hb
      go_wp2_with fail
      refine (HTR.out).mono ?_
      rintro e w3 ⟨rfl, hb⟩
      have HB3 := hid (HB2.out.trans (hb.mono HB2.out.size))
      clear hb
      go_wp2_with fail
      go_ret
      exact ⟨rfl, HB3.out⟩

set_option maxHeartbeats 4000000 in
set_option maxRecDepth 100000 in
theorem deval_any (t : List UInt8) (ps : List ByteArray) (ao : Option Addr) (n c : Nat) (w : World) (ht : DW w) (hn : ps.length = n) (hn2 : n ≤ 2000000) (hc : n ≤ c) (hcm : c ≤ maxLen) (hz : ∀ p ∈ ps, p.size ≤ 2000000) (hr : SLst w ao ps) :
    Calls Tryz.prog 37 #[.slice ao n c] w fun e w' => dansOut t [101, 118, 97, 108] ps w e w' := by
  have hps : ps.length = n := hn
  have HNU := hid (two_any ps ao n c w hn hn2 hc hcm hz hr ht)
  have HW3 := hid (fun W (h : Below w.heap.size w W) => tellE_any 3 W (by omega) (ht.kept h))
  have HT := hid ht
  have HAR : Hid (argsF [101, 118, 97, 108] (ps.map (·.data.toList)) = twoA (ps.map (·.data.toList))) := hid (argsT (by decide))
  clear ht hn hz hr hcm
  go_enter Tryz.func37, Tryz.ntmps37
  go_wp2_with fail
  refine (HNU.out).mono ?_
  intro e w1 hh
  rcases hh with ⟨xa, xn, xc, ya, yn, yc, rfl, hf, hb⟩ | ⟨a1, m, cc, l, a2, m2, cc2, l2, rfl, hf, hl, hl2, hle, hle2, hb⟩
  · have HB1 := hid hb
    have HA : Hid (sB (wrongD 3) = sB (ansD t [101, 118, 97, 108] (ps.map (·.data.toList)))) := hid (by unfold ansD; rw [HAR.out, hf])
    rw [HA.out] at HW3
    clear hb hf HNU
    go_wp2_with fail
    refine (HW3.out _ HB1.out).mono ?_
    rintro e w2 ⟨rfl, hb⟩
    have HB2 := hid (HB1.out.trans (hb.mono HB1.out.size))
    clear hb
    go_wp2_with fail
    go_ret
    exact ⟨rfl, HB2.out⟩
  · have HB1 := hid hb
    have HL := hid hl
    have HL2 := hid hl2
    have HAN : Hid (ansD t [101, 118, 97, 108] (ps.map (·.data.toList)) = ansN t [101, 118, 97, 108] l l2) := hid (by unfold ansD; rw [HAR.out, hf])
    clear hb hl hl2 hf HNU
    have hmx : m ≤ maxLen := by unfold maxLen; omega
    by_cases hk : ∃ k, k ≤ 8 ∧ m = 2 ^ k
    · obtain ⟨k, hk8, hmk⟩ := hk
      have hm1 : 1 ≤ m := by rw [hmk]; exact Nat.one_le_two_pow
      obtain ⟨ba, oa, rfl, hra⟩ := HL.out.row (by omega)
      by_cases hmm : m2 = k
      · have HA : Hid (sB (saidD [(ofK (evS (fun j => kk (fOf l j)) (fun j => kk (fOf l2 j)) k)).toNat]) = sB (ansD t [101, 118, 97, 108] (ps.map (·.data.toList)))) := hid (by
          rw [HAN.out]
          unfold ansN
          rw [if_neg (by decide), if_neg (by decide), if_neg (by decide), if_neg (by decide), if_neg (by decide), if_neg (by decide), if_neg (by decide), if_neg (by decide), if_pos rfl, HL.out.len, varsF_some hk8 hmk]
          show _ = sB (if l2.length = k then _ else _)
          rw [if_pos (by rw [HL2.out.len]; exact hmm)])
        have HPR := hid HL2.out.row
        rw [hmm] at HPR
        have HOP := hid (eval_ok ba oa k m cc cc2 a2 (fOf l) (fOf l2) w1 hk8 hmk (HT.out.kept HB1.out).tab hra HL.out.nums HPR.out HL2.out.nums)
        obtain ⟨z, hz⟩ : ∃ z, ofK (evS (fun j => kk (fOf l j)) (fun j => kk (fOf l2 j)) k) = z := ⟨_, rfl⟩
        have hx : 0 ≤ z ∧ z ≤ 18446744073709551615 := by rw [← hz]; exact ofK_u64 _
        rw [hz] at HA HOP
        subst hmm
        clear hz hra hmk
        go_wp2_with fail
        refine (HOP.out).mono ?_
        rintro e w2 ⟨rfl, hb⟩
        have HB2 : Hid (Below w.heap.size w w2) := hid (HB1.out.trans (hb.mono HB1.out.size))
        have HTR := hid (tellR_int z w2 hx.1 hx.2 (HT.out.kept HB2.out))
        rw [HA.out] at HTR
        clear hb
        go_wp2_with fail
        refine (HTR.out).mono ?_
        rintro e w3 ⟨rfl, hb⟩
        have HB3 := hid (HB2.out.trans (hb.mono HB2.out.size))
        clear hb
        go_wp2_with fail
        go_ret
        exact ⟨rfl, HB3.out⟩
      · have HA : Hid (sB (wrongD 1) = sB (ansD t [101, 118, 97, 108] (ps.map (·.data.toList)))) := hid (by
          rw [HAN.out]
          unfold ansN
          rw [if_neg (by decide), if_neg (by decide), if_neg (by decide), if_neg (by decide), if_neg (by decide), if_neg (by decide), if_neg (by decide), if_neg (by decide), if_pos rfl, HL.out.len, varsF_some hk8 hmk]
          show _ = sB (if l2.length = k then _ else _)
          rw [if_neg (by rw [HL2.out.len]; exact hmm)])
        have HOP := hid (eval_arg (some ⟨ba, oa, none⟩) a2 k m cc m2 cc2 w1 hk8 hmk (HT.out.kept HB1.out).tab hmm)
        have HTR := hid (tellR_no 0 1 w1 (by omega) (by omega) (HT.out.kept HB1.out))
        rw [HA.out] at HTR
        clear hra hmk hmm
        go_wp2_with (go_at_call 70; refine (HOP.out).mono ?_; rintro e w' ⟨rfl, hw⟩; obtain rfl := hw.symm)
        refine (HTR.out).mono ?_
        rintro e w3 ⟨rfl, hb⟩
        have HB3 := hid (HB1.out.trans (hb.mono HB1.out.size))
        clear hb
        go_wp2_with fail
        go_ret
        exact ⟨rfl, HB3.out⟩
    · have hno : ∀ k, k ≤ 8 → m ≠ 2 ^ k := fun k h1 h2 => hk ⟨k, h1, h2⟩
      have HA : Hid (sB (wrongD 4) = sB (ansD t [101, 118, 97, 108] (ps.map (·.data.toList)))) := hid (by
        rw [HAN.out]
        unfold ansN
        rw [if_neg (by decide), if_neg (by decide), if_neg (by decide), if_neg (by decide), if_neg (by decide), if_neg (by decide), if_neg (by decide), if_neg (by decide), if_pos rfl, HL.out.len, varsF_none hno])
      have HOP := hid (eval_bad a1 a2 m cc m2 cc2 w1 hno hmx)
      have HTR := hid (tellR_no 0 4 w1 (by omega) (by omega) (HT.out.kept HB1.out))
      rw [HA.out] at HTR
      clear hno hk
      go_wp2_with (go_at_call 70; refine (HOP.out).mono ?_; rintro e w' ⟨rfl, hw⟩; obtain rfl := hw.symm)
      refine (HTR.out).mono ?_
      rintro e w3 ⟨rfl, hb⟩
      have HB3 := hid (HB1.out.trans (hb.mono HB1.out.size))
      clear hb
      go_wp2_with fail
      go_ret
      exact ⟨rfl, HB3.out⟩

end Go.Proofs.YtiohbjnnfkadnaaGreatDoor
