/-
  Contracts of package circuit's isDigit, digit, readNumber and readNumbers; they make new rows and write nothing that was there.
-/
import Derived.Test.YtnnnlalhhhhaeaaDoorCirc
import Derived.PlainAid
import Derived.Deep.OwnRows
import Derived.Deep.RegionHeld3
import Derived.Deep.RegionWith
import Derived.Deep.LoopGhost
import Derived.Deep.Light
import Derived.Deep.DrawnRows
import Derived.Deep.QuietTactic
namespace Go.Proofs.YtnnnlalhhhhaeaaDoor
open Go.RowKit Go.PlainAid
set_option linter.unusedVariables false
attribute [local go_sem ↓] Go.wp_at_zero Go.wp_at_succ

theorem bt_at {s : ByteArray} {k : Nat} {d : UInt8} (h : s.data.toList[k]? = some d) : bt s k = (d.toNat : Int) := by
  obtain ⟨⟨l⟩⟩ := s
  have hk : k < l.length := (List.getElem?_eq_some_iff.1 h).1
  unfold bt
  rw [dif_pos (show k < (ByteArray.mk ⟨l⟩).size from hk)]
  have : l[k] = d := by
    have := (List.getElem?_eq_some_iff.1 h).2
    exact this
  show ((l[k]).toNat : Int) = _
  rw [this]
theorem dig_bt (d : UInt8) : digQ d = (decide ((48 : Int) ≤ (d.toNat : Int)) && decide ((d.toNat : Int) ≤ 57)) := by
  unfold digQ
  have h1 : (decide (48 ≤ d)) = decide ((48 : Int) ≤ (d.toNat : Int)) := by
    rw [decide_eq_decide]
    constructor
    · intro h; have : (48 : UInt8).toNat ≤ d.toNat := h; have e : (48 : UInt8).toNat = 48 := rfl; omega
    · intro h; show (48 : UInt8).toNat ≤ d.toNat; have e : (48 : UInt8).toNat = 48 := rfl; omega
  have h2 : (decide (d ≤ 57)) = decide ((d.toNat : Int) ≤ 57) := by
    rw [decide_eq_decide]
    constructor
    · intro h; have : d.toNat ≤ (57 : UInt8).toNat := h; have e : (57 : UInt8).toNat = 57 := rfl; omega
    · intro h; show d.toNat ≤ (57 : UInt8).toNat; have e : (57 : UInt8).toNat = 57 := rfl; omega
  rw [h1, h2]
theorem ne_bt (d : UInt8) : (d != 48) = ((d.toNat : Int) != 48) := by
  by_cases h : d = 48
  · subst h; rfl
  · have : d.toNat ≠ 48 := fun e => h (by have := byte_nat d; rw [e] at this; rw [← this]; rfl)
    have e1 : (d != 48) = true := by simp [h]
    have e2 : ((d.toNat : Int) != 48) = true := by simp; omega
    rw [e1, e2]
/-- A number, by its bytes. -/
def numB (s : ByteArray) : Option Int :=
  if s.size = 1 then (if (decide (48 ≤ bt s 0) && decide (bt s 0 ≤ 57)) = true then some (bt s 0 - 48) else none)
  else if s.size = 2 then (if ((decide (48 ≤ bt s 0) && decide (bt s 0 ≤ 57)) && (decide (48 ≤ bt s 1) && decide (bt s 1 ≤ 57)) && (bt s 0 != 48)) = true then some ((bt s 0 - 48) * 10 + (bt s 1 - 48)) else none)
  else none
theorem numB_is (s : ByteArray) : numQ s.data.toList = numB s := by
  have hs : s.size = s.data.toList.length := by obtain ⟨⟨l⟩⟩ := s; rfl
  match h : s.data.toList with
  | [] => rw [h] at hs; rw [numB, if_neg (by rw [hs]; simp), if_neg (by rw [hs]; simp)]; rfl
  | [d] =>
    rw [h] at hs
    have e0 := bt_at (s := s) (k := 0) (d := d) (by rw [h]; rfl)
    rw [numB, if_pos (by rw [hs]; rfl), e0, numQ, dig_bt]
    rfl
  | [d, e] =>
    rw [h] at hs
    have e0 := bt_at (s := s) (k := 0) (d := d) (by rw [h]; rfl)
    have e1 := bt_at (s := s) (k := 1) (d := e) (by rw [h]; rfl)
    rw [numB, if_neg (by rw [hs]; simp), if_pos (by rw [hs]; rfl), e0, e1, numQ, dig_bt, dig_bt, ne_bt]
    rfl
  | _ :: _ :: _ :: _ => rw [h] at hs; rw [numB, if_neg (by rw [hs]; simp), if_neg (by rw [hs]; simp)]; rfl
theorem numB_rng {s : ByteArray} {n : Int} (h : numB s = some n) : 0 ≤ n ∧ n < 100 := by
  rw [← numB_is] at h
  exact (digs_num h).2

set_option maxHeartbeats 400000 in
theorem isdig_any (b : Int) (w : World) : Calls Tryd.prog 43 #[.int .u8 b] w fun e w' => e = .returned (.bool (decide (48 ≤ b) && decide (b ≤ 57))) ∧ w' = w := by
  by_cases h1 : 48 ≤ b
  · by_cases h2 : b ≤ 57
    · go_enter Tryd.func43, Tryd.ntmps43
      go_wp2
      go_ret
      exact ⟨by simp [h1, h2], rfl⟩
    · go_enter Tryd.func43, Tryd.ntmps43
      go_wp2
      go_ret
      exact ⟨by simp [h2], rfl⟩
  · go_enter Tryd.func43, Tryd.ntmps43
    go_wp2
    go_ret
    exact ⟨by simp; omega, rfl⟩
set_option maxHeartbeats 400000 in
theorem digit_any (b : Int) (w : World) (h0 : 48 ≤ b) (h1 : b ≤ 57) : Calls Tryd.prog 44 #[.int .u8 b] w fun e w' => e = .returned (.int .i64 (b - 48)) ∧ w' = w := by
  go_enter Tryd.func44, Tryd.ntmps44
  go_wp2
  go_ret
  exact ⟨rfl, rfl⟩
set_option maxHeartbeats 1000000 in
theorem rnum_any (s : ByteArray) (w : World) : Calls Tryd.prog 34 #[.string s] w fun e w' => e = .returned (match numB s with | some n => .tuple #[.int .i64 n, .bool true] | none => .tuple #[.int .i64 0, .bool false]) ∧ Below w.heap.size w w' := by
  have hbt := get_bt s
  by_cases h1 : s.size = 1
  · have e1 : ((s.size : Int) == 1) = true := by rw [h1]; rfl
    have i0 : 0 < s.size := by omega
    have HD := hid (isdig_any (bt s 0) w)
    cases hd : (decide (48 ≤ bt s 0) && decide (bt s 0 ≤ 57)) with
    | true =>
      rw [hd] at HD
      have hn : numB s = some (bt s 0 - 48) := by rw [numB, if_pos h1, hd, if_pos rfl]
      rw [hn]
      simp at hd
      have HG := hid (digit_any (bt s 0) w hd.1 hd.2)
      clear hn
      go_enter Tryd.func34, Tryd.ntmps34
      go_wp2_with (first | (go_at_call 43; refine (HD.out).mono ?_; rintro e w' ⟨rfl, hw⟩; obtain rfl := hw.symm) | (go_at_call 44; refine (HG.out).mono ?_; rintro e w' ⟨rfl, hw⟩; obtain rfl := hw.symm))
      go_ret2
      exact ⟨rfl, Below.refl _ _⟩
    | false =>
      rw [hd] at HD
      have hn : numB s = none := by rw [numB, if_pos h1, hd]; rfl
      rw [hn]
      have e2 : ((s.size : Int) == 2) = false := by rw [h1]; rfl
      clear hn
      go_enter Tryd.func34, Tryd.ntmps34
      go_wp2_with (go_at_call 43; refine (HD.out).mono ?_; rintro e w' ⟨rfl, hw⟩; obtain rfl := hw.symm)
      go_ret2
      exact ⟨rfl, Below.refl _ _⟩
  · have e1 : ((s.size : Int) == 1) = false := beq_eq_false_iff_ne.2 (by omega)
    by_cases h2 : s.size = 2
    · have e2 : ((s.size : Int) == 2) = true := by rw [h2]; rfl
      have i0 : 0 < s.size := by omega
      have i1 : 1 < s.size := by omega
      have HD := hid (isdig_any (bt s 0) w)
      have HE := hid (isdig_any (bt s 1) w)
      cases hd : (decide (48 ≤ bt s 0) && decide (bt s 0 ≤ 57)) with
      | true =>
        rw [hd] at HD
        cases he : (decide (48 ≤ bt s 1) && decide (bt s 1 ≤ 57)) with
        | true =>
          rw [he] at HE
          cases hz : (bt s 0 != 48) with
          | true =>
            have hn : numB s = some ((bt s 0 - 48) * 10 + (bt s 1 - 48)) := by rw [numB, if_neg h1, if_pos h2, hd, he, hz]; rfl
            rw [hn]
            simp at hd he
            obtain ⟨d0, d1⟩ := hd
            obtain ⟨f0, f1⟩ := he
            have HG := hid (fun W => digit_any (bt s 0) W d0 d1)
            have HH := hid (fun W => digit_any (bt s 1) W f0 f1)
            obtain ⟨x, hx⟩ : ∃ x, bt s 0 = x := ⟨_, rfl⟩
            obtain ⟨y, hy⟩ : ∃ y, bt s 1 = y := ⟨_, rfl⟩
            rw [hx] at HD HG hz d0 d1 ⊢
            rw [hy] at HE HH f0 f1 ⊢
            have b0 : ((s[0]'i0).toNat : Int) = x := by rw [hbt, hx]
            have b1 : ((s[1]'i1).toNat : Int) = y := by rw [hbt, hy]
            have wr1 : IntKind.i64.wrap (10 * (x - 48)) = 10 * (x - 48) := IntWalk.i64_in _ (by omega)
            have wr2 : IntKind.i64.wrap (10 * (x - 48) + (y - 48)) = 10 * (x - 48) + (y - 48) := IntWalk.i64_in _ (by omega)
            clear hn hbt hx hy
            go_enter Tryd.func34, Tryd.ntmps34
            go_wp2_with fail
            refine (HD.out).mono ?_
            rintro e w' ⟨rfl, hw⟩
            obtain rfl := hw.symm
            go_wp2_with fail
            refine (HE.out).mono ?_
            rintro e w' ⟨rfl, hw⟩
            obtain rfl := hw.symm
            go_wp2_with fail
            go_quiet (first | (go_at_call 44; exact Calls.quiet_of_same (digit_any _ _ (by omega) (by omega))))
            go_wp2_with fail
            go_ret2
            have hq : (x - 48) * 10 + (y - 48) = 10 * (x - 48) + (y - 48) := by omega
            refine ⟨?_, ⟨rfl, rfl, rfl, Nat.le_refl _, fun _ _ => rfl⟩⟩
            rw [hq]
            rfl
          | false =>
            have hn : numB s = none := by rw [numB, if_neg h1, if_pos h2, hd, he, hz]; rfl
            rw [hn]
            have b0 : ((s[0]'i0).toNat : Int) = 48 := by rw [hbt]; simpa using hz
            have hx : bt s 0 = 48 := by simpa using hz
            rw [hx] at HD
            clear hn
            go_enter Tryd.func34, Tryd.ntmps34
            go_wp2_with fail
            refine (HD.out).mono ?_
            rintro e w' ⟨rfl, hw⟩
            obtain rfl := hw.symm
            go_wp2_with fail
            refine (HE.out).mono ?_
            rintro e w' ⟨rfl, hw⟩
            obtain rfl := hw.symm
            go_wp2_with fail
            go_ret2
            exact ⟨rfl, Below.refl _ _⟩
        | false =>
          rw [he] at HE
          have hn : numB s = none := by rw [numB, if_neg h1, if_pos h2, hd, he]; rfl
          rw [hn]
          clear hn
          go_enter Tryd.func34, Tryd.ntmps34
          go_wp2_with fail
          refine (HD.out).mono ?_
          rintro e w' ⟨rfl, hw⟩
          obtain rfl := hw.symm
          go_wp2_with fail
          refine (HE.out).mono ?_
          rintro e w' ⟨rfl, hw⟩
          obtain rfl := hw.symm
          go_wp2_with fail
          go_ret2
          exact ⟨rfl, Below.refl _ _⟩
      | false =>
        rw [hd] at HD
        have hn : numB s = none := by rw [numB, if_neg h1, if_pos h2, hd]; rfl
        rw [hn]
        clear hn
        go_enter Tryd.func34, Tryd.ntmps34
        go_wp2_with fail
        refine (HD.out).mono ?_
        rintro e w' ⟨rfl, hw⟩
        obtain rfl := hw.symm
        go_wp2_with fail
        go_ret2
        exact ⟨rfl, Below.refl _ _⟩
    · have e2 : ((s.size : Int) == 2) = false := beq_eq_false_iff_ne.2 (by omega)
      have hn : numB s = none := by rw [numB, if_neg h1, if_neg h2]
      rw [hn]
      clear hn
      go_enter Tryd.func34, Tryd.ntmps34
      go_wp2_with fail
      go_ret2
      exact ⟨rfl, Below.refl _ _⟩
/-- k numbers of Go's int, made anew, lie at the heap's old end. -/
structure MadeI (w w' : World) (V n : Nat) (f : Nat → Int) : Prop where
  below : Below w.heap.size w w'
  row : ∀ j, j < n → w'.cell? ⟨V, j, none⟩ = some (.int .i64 (f j))
  free : ∀ j, j < n → w'.frozen? ⟨V, j, none⟩ = false
  ge : w.heap.size ≤ V
  lt : V < w'.heap.size
theorem MadeI.start (w : World) (n : Nat) (t : TypeId) : MadeI w (w.alloc (.cells (madeCells #[.int .i64 0] n) t)) w.heap.size n (fun _ => 0) :=
  ⟨(Below.refl _ w).alloc (Nat.le_refl _) _, fun j hj => by rw [World.cell?_alloc_new]; simp [madeCells, hj, Nat.mod_one], fun j _ => by rw [World.frozen?_alloc_new], Nat.le_refl _, by simp⟩
theorem MadeI.kept {w w1 w2 : World} {V n : Nat} {f : Nat → Int} (h : MadeI w w1 V n f) (hb : Below w1.heap.size w1 w2) : MadeI w w2 V n f :=
  ⟨h.below.trans (hb.mono h.below.size), fun j hj => (hb.cell h.lt).trans (h.row j hj), fun j hj => (hb.frozen h.lt).trans (h.free j hj), h.ge, Nat.lt_of_lt_of_le h.lt hb.size⟩
theorem MadeI.store {w w' : World} {V n : Nat} {f g : Nat → Int} (h : MadeI w w' V n f) (i : Nat) (x : Int) (hi : i < n) (hg : ∀ j, j < n → (if j = i then x else f j) = g j) : MadeI w (w'.setCell ⟨V, i, none⟩ (.int .i64 x)) V n g := by
  refine ⟨h.below.setCell h.ge _, fun j hj => ?_, fun j hj => by rw [World.frozen?_setCell]; exact h.free j hj, h.ge, by rw [World.size_setCell]; exact h.lt⟩
  rw [← hg j hj]
  by_cases e : j = i
  · subst e; rw [World.cell?_setCell_same _ _ _ (h.row j hj), if_pos rfl]
  · rw [World.cell?_setCell_other _ _ _ _ (by intro e2; simp only [Addr.mk.injEq] at e2; omega), if_neg e]; exact h.row j hj
theorem Tryd.infoI : (Tryd.prog.info? 3).map (fun i => (i.zero, i.size, i.bytes)) = some (some (.int .i64 0), 1, 8) := by kernel_rfl
/-- k texts lie in block b from place o on. -/
def SRow (w : World) (b o n : Nat) (s : Nat → ByteArray) : Prop := ∀ j, j < n → w.cell? ⟨b, o + j, none⟩ = some (.string (s j))
/-- The numbers that k texts tell, if each tells one. -/
def numsB (s : Nat → ByteArray) (j : Nat) : Int := (numB (s j)).getD 0

set_option maxHeartbeats 1000000 in
set_option maxRecDepth 100000 in
theorem rnums_any (b off n cap : Nat) (s : Nat → ByteArray) (w : World) (hn : n ≤ 5000) (hb : b < w.heap.size) (hr : SRow w b off n s) :
    Calls Tryd.prog 29 #[.slice (some ⟨b, off, none⟩) n cap] w fun e w' =>
      ((∀ j, j < n → numB (s j) ≠ none) ∧ e = .returned (.tuple #[.slice (some ⟨w.heap.size, 0, none⟩) n n, .bool true]) ∧ MadeI w w' w.heap.size n (numsB s)) ∨
      ((∃ j, j < n ∧ numB (s j) = none) ∧ e = .returned (.tuple #[.slice none 0 0, .bool false]) ∧ Below w.heap.size w w') := by
  have HR := hid hr
  clear hr
  have hmk := run_make_row' (P := Tryd.prog) 39 3 (.int .i64 0) 8 Tryd.underlying39 Tryd.infoI rfl .i64 .i64 n (by omega) (by omega)
  go_enter Tryd.func29, Tryd.ntmps29
  go_wp2_with fail
  clear hmk
  have HM0 := hid (MadeI.start w n 3)
  obtain ⟨V, hV⟩ : ∃ V, w.heap.size = V := ⟨_, rfl⟩
  rw [hV] at HM0 ⊢
  have HVE := hid hV
  clear hV
  generalize w.alloc (.cells (madeCells #[.int .i64 0] n) 3) = W0 at HM0 ⊢
  go_loopg [14] n (fun q i wr => ∃ k : Nat, k ≤ n ∧ q = n - k ∧ i = .int .i64 (k : Int) ∧ Hid (MadeI w wr V n (fun j => if j < k then numsB s j else 0)) ∧ Hid (∀ j, j < k → numB (s j) ≠ none))
  case atStart => exact ⟨0, by omega, rfl, rfl, hid ⟨HM0.out.below, fun j hj => by rw [if_neg (by omega)]; exact HM0.out.row j hj, HM0.out.free, HM0.out.ge, HM0.out.lt⟩, hid (fun j hj => absurd hj (by omega))⟩
  case round =>
    clear HM0
    obtain ⟨k, hk, rfl, rfl, HM, HD⟩ := hrel
    by_cases hlt : k < n
    · have c1 : wr.cell? ⟨b, off + k, none⟩ = some (.string (s k)) := (HM.out.below.cell hb).trans (HR.out k hlt)
      obtain ⟨sk, hsk⟩ : ∃ x, s k = x := ⟨_, rfl⟩
      rw [hsk] at c1
      have HSK := hid hsk
      clear hsk
      have k0 : (0 : Int) ≤ (k : Int) := by omega
      have k1 : (k : Int) < (n : Int) := by omega
      go_wp2_with fail
      refine (rnum_any sk wr).mono ?_
      rintro e w1 ⟨rfl, hb1⟩
      have HM1 := hid (HM.out.kept hb1)
      have c3 := HM1.out.row k hlt
      have f3 := HM1.out.free k hlt
      rw [if_neg (by omega)] at c3
      clear hb1 HM c1
      cases hnb : numB sk with
      | none =>
        go_wp2_with fail
        go_ret2
        exact .inr ⟨⟨k, hlt, by rw [HSK.out]; exact hnb⟩, rfl, HM1.out.below⟩
      | some x =>
        have HNB := hid hnb
        clear hnb
        go_wp2_with fail
        go_roundg (n - (k + 1))
        case measure => go_light; omega
        case rel =>
          refine ⟨k + 1, by omega, rfl, by go_num, hid (HM1.out.store k x hlt fun j hj => ?_), hid fun j hj => ?_⟩
          · by_cases e : j = k
            · subst e; rw [if_pos rfl, if_pos (by omega), numsB, HSK.out, HNB.out]; rfl
            · rw [if_neg e]
              by_cases h2 : j < k
              · rw [if_pos h2, if_pos (by omega)]
              · rw [if_neg h2, if_neg (by omega)]
          · by_cases e : j < k
            · exact HD.out j e
            · rw [show j = k from by omega, HSK.out, HNB.out]; simp
    · have e : k = n := by omega
      subst e
      go_wp2_with fail
      go_ret2
      refine .inl ⟨HD.out, by rw [HVE.out]; rfl, ?_⟩
      rw [HVE.out]
      exact ⟨HM.out.below, fun j hj => by have := HM.out.row j hj; rw [if_pos hj] at this; exact this, HM.out.free, HM.out.ge, HM.out.lt⟩

end Go.Proofs.YtnnnlalhhhhaeaaDoor
