/-
  Several texts in one: CircN, CircB, Cuts, CircT, CircP, CircG, CircG2, CircS, CircS2; each opens with what it holds.
-/
import Derived.Test.YtiohbjnnfkadnaaGreatDoorCirc
import Derived.PlainAid
import Derived.Deep.OwnRows
import Derived.Deep.RegionHeld3
import Derived.Deep.RegionWith
import Derived.Deep.LoopGhost
import Derived.Deep.Light
import Derived.Deep.DrawnRows
import Derived.Deep.QuietTactic
import Derived.Test.YtiohbjnnfkadnaaGreatDoorChecked
import Derived.Test.YtiohbjnnfkadnaaGreatDoorText
import Derived.Lib.SplitLaws
import Derived.Test.YtiohbjnnfkadnaaGreatDoorShelf
import Derived.Test.YtiohbjnnfkadnaaGreatDoorCircL
import Derived.Test.YtiohbjnnfkadnaaGreatDoorCircC
import Derived.Deep.RegionLaw
import Derived.Deep.AppendLies
import Derived.Laws.ResultCell
/-
  Contracts of package circuit's isDigit, digit, readNumber and readNumbers; they make new rows and write nothing that was there.
-/
namespace Go.Proofs.YtiohbjnnfkadnaaGreatDoor
open Go.RowKit Go.PlainAid
set_option linter.unusedVariables false
attribute [local go_sem ↓] Go.wp_at_zero Go.wp_at_succ

theorem bt_at {s : ByteArray} {k : Nat} {d : UInt8} (h : s.data.toList[k]? = some d) : bt s k = (d.toNat : Int) := by
  obtain ⟨⟨l⟩⟩ := s
  have hk : k < l.length := (List.getElem?_eq_some_iff.1 h).1
  unfold bt
  rw [dif_pos (show k < (ByteArray.mk ⟨l⟩).size from hk)]
  have : l[k] = d := by
    have := (List.getElem?_eq_some_iff.1 h).2
    exact this
  show ((l[k]).toNat : Int) = _
  rw [this]
theorem dig_bt (d : UInt8) : digQ d = (decide ((48 : Int) ≤ (d.toNat : Int)) && decide ((d.toNat : Int) ≤ 57)) := by
  unfold digQ
  have h1 : (decide (48 ≤ d)) = decide ((48 : Int) ≤ (d.toNat : Int)) := by
    rw [decide_eq_decide]
    constructor
    · intro h; have : (48 : UInt8).toNat ≤ d.toNat := h; have e : (48 : UInt8).toNat = 48 := rfl; omega
    · intro h; show (48 : UInt8).toNat ≤ d.toNat; have e : (48 : UInt8).toNat = 48 := rfl; omega
  have h2 : (decide (d ≤ 57)) = decide ((d.toNat : Int) ≤ 57) := by
    rw [decide_eq_decide]
    constructor
    · intro h; have : d.toNat ≤ (57 : UInt8).toNat := h; have e : (57 : UInt8).toNat = 57 := rfl; omega
    · intro h; show d.toNat ≤ (57 : UInt8).toNat; have e : (57 : UInt8).toNat = 57 := rfl; omega
  rw [h1, h2]
theorem ne_bt (d : UInt8) : (d != 48) = ((d.toNat : Int) != 48) := by
  by_cases h : d = 48
  · subst h; rfl
  · have : d.toNat ≠ 48 := fun e => h (by have := byte_nat d; rw [e] at this; rw [← this]; rfl)
    have e1 : (d != 48) = true := by simp [h]
    have e2 : ((d.toNat : Int) != 48) = true := by simp; omega
    rw [e1, e2]
/-- A number, by its bytes. -/
def numB (s : ByteArray) : Option Int :=
  if s.size = 1 then (if (decide (48 ≤ bt s 0) && decide (bt s 0 ≤ 57)) = true then some (bt s 0 - 48) else none)
  else if s.size = 2 then (if ((decide (48 ≤ bt s 0) && decide (bt s 0 ≤ 57)) && (decide (48 ≤ bt s 1) && decide (bt s 1 ≤ 57)) && (bt s 0 != 48)) = true then some ((bt s 0 - 48) * 10 + (bt s 1 - 48)) else none)
  else none
theorem numB_is (s : ByteArray) : numQ s.data.toList = numB s := by
  have hs : s.size = s.data.toList.length := by obtain ⟨⟨l⟩⟩ := s; rfl
  match h : s.data.toList with
  | [] => rw [h] at hs; rw [numB, if_neg (by rw [hs]; simp), if_neg (by rw [hs]; simp)]; rfl
  | [d] =>
    rw [h] at hs
    have e0 := bt_at (s := s) (k := 0) (d := d) (by rw [h]; rfl)
    rw [numB, if_pos (by rw [hs]; rfl), e0, numQ, dig_bt]
    rfl
  | [d, e] =>
    rw [h] at hs
    have e0 := bt_at (s := s) (k := 0) (d := d) (by rw [h]; rfl)
    have e1 := bt_at (s := s) (k := 1) (d := e) (by rw [h]; rfl)
    rw [numB, if_neg (by rw [hs]; simp), if_pos (by rw [hs]; rfl), e0, e1, numQ, dig_bt, dig_bt, ne_bt]
    rfl
  | _ :: _ :: _ :: _ => rw [h] at hs; rw [numB, if_neg (by rw [hs]; simp), if_neg (by rw [hs]; simp)]; rfl
theorem numB_rng {s : ByteArray} {n : Int} (h : numB s = some n) : 0 ≤ n ∧ n < 100 := by
  rw [← numB_is] at h
  exact (digs_num h).2

set_option maxHeartbeats 400000 in
theorem isdig_any (b : Int) (w : World) : Calls Tryz.prog 219 #[.int .u8 b] w fun e w' => e = .returned (.bool (decide (48 ≤ b) && decide (b ≤ 57))) ∧ w' = w := by
  by_cases h1 : 48 ≤ b
  · by_cases h2 : b ≤ 57
    · go_enter Tryz.func219, Tryz.ntmps219
      go_wp2
      go_ret
      exact ⟨by simp [h1, h2], rfl⟩
    · go_enter Tryz.func219, Tryz.ntmps219
      go_wp2
      go_ret
      exact ⟨by simp [h2], rfl⟩
  · go_enter Tryz.func219, Tryz.ntmps219
    go_wp2
    go_ret
    exact ⟨by simp; omega, rfl⟩
set_option maxHeartbeats 400000 in
theorem digit_any (b : Int) (w : World) (h0 : 48 ≤ b) (h1 : b ≤ 57) : Calls Tryz.prog 220 #[.int .u8 b] w fun e w' => e = .returned (.int .i64 (b - 48)) ∧ w' = w := by
  go_enter Tryz.func220, Tryz.ntmps220
  go_wp2
  go_ret
  exact ⟨rfl, rfl⟩
set_option maxHeartbeats 1000000 in
theorem rnum_any (s : ByteArray) (w : World) : Calls Tryz.prog 211 #[.string s] w fun e w' => e = .returned (match numB s with | some n => .tuple #[.int .i64 n, .bool true] | none => .tuple #[.int .i64 0, .bool false]) ∧ Below w.heap.size w w' := by
  have hbt := get_bt s
  by_cases h1 : s.size = 1
  · have e1 : ((s.size : Int) == 1) = true := by rw [h1]; rfl
    have i0 : 0 < s.size := by omega
    have HD := hid (isdig_any (bt s 0) w)
    cases hd : (decide (48 ≤ bt s 0) && decide (bt s 0 ≤ 57)) with
    | true =>
      rw [hd] at HD
      have hn : numB s = some (bt s 0 - 48) := by rw [numB, if_pos h1, hd, if_pos rfl]
      rw [hn]
      simp at hd
      have HG := hid (digit_any (bt s 0) w hd.1 hd.2)
      clear hn
      go_enter Tryz.func211, Tryz.ntmps211
      go_wp2_with (first | (go_at_call 219; refine (HD.out).mono ?_; rintro e w' ⟨rfl, hw⟩; obtain rfl := hw.symm) | (go_at_call 220; refine (HG.out).mono ?_; rintro e w' ⟨rfl, hw⟩; obtain rfl := hw.symm))
      go_ret2
      exact ⟨rfl, Below.refl _ _⟩
    | false =>
      rw [hd] at HD
      have hn : numB s = none := by rw [numB, if_pos h1, hd]; rfl
      rw [hn]
      have e2 : ((s.size : Int) == 2) = false := by rw [h1]; rfl
      clear hn
      go_enter Tryz.func211, Tryz.ntmps211
      go_wp2_with (go_at_call 219; refine (HD.out).mono ?_; rintro e w' ⟨rfl, hw⟩; obtain rfl := hw.symm)
      go_ret2
      exact ⟨rfl, Below.refl _ _⟩
  · have e1 : ((s.size : Int) == 1) = false := beq_eq_false_iff_ne.2 (by omega)
    by_cases h2 : s.size = 2
    · have e2 : ((s.size : Int) == 2) = true := by rw [h2]; rfl
      have i0 : 0 < s.size := by omega
      have i1 : 1 < s.size := by omega
      have HD := hid (isdig_any (bt s 0) w)
      have HE := hid (isdig_any (bt s 1) w)
      cases hd : (decide (48 ≤ bt s 0) && decide (bt s 0 ≤ 57)) with
      | true =>
        rw [hd] at HD
        cases he : (decide (48 ≤ bt s 1) && decide (bt s 1 ≤ 57)) with
        | true =>
          rw [he] at HE
          cases hz : (bt s 0 != 48) with
          | true =>
            have hn : numB s = some ((bt s 0 - 48) * 10 + (bt s 1 - 48)) := by rw [numB, if_neg h1, if_pos h2, hd, he, hz]; rfl
            rw [hn]
            simp at hd he
            obtain ⟨d0, d1⟩ := hd
            obtain ⟨f0, f1⟩ := he
            have HG := hid (fun W => digit_any (bt s 0) W d0 d1)
            have HH := hid (fun W => digit_any (bt s 1) W f0 f1)
            obtain ⟨x, hx⟩ : ∃ x, bt s 0 = x := ⟨_, rfl⟩
            obtain ⟨y, hy⟩ : ∃ y, bt s 1 = y := ⟨_, rfl⟩
            rw [hx] at HD HG hz d0 d1 ⊢
            rw [hy] at HE HH f0 f1 ⊢
            have b0 : ((s[0]'i0).toNat : Int) = x := by rw [hbt, hx]
            have b1 : ((s[1]'i1).toNat : Int) = y := by rw [hbt, hy]
            have wr1 : IntKind.i64.wrap (10 * (x - 48)) = 10 * (x - 48) := IntWalk.i64_in _ (by omega)
            have wr2 : IntKind.i64.wrap (10 * (x - 48) + (y - 48)) = 10 * (x - 48) + (y - 48) := IntWalk.i64_in _ (by omega)
            clear hn hbt hx hy
            go_enter Tryz.func211, Tryz.ntmps211
            go_wp2_with fail
            refine (HD.out).mono ?_
            rintro e w' ⟨rfl, hw⟩
            obtain rfl := hw.symm
            go_wp2_with fail
            refine (HE.out).mono ?_
            rintro e w' ⟨rfl, hw⟩
            obtain rfl := hw.symm
            go_wp2_with fail
            go_quiet (first | (go_at_call 220; exact Calls.quiet_of_same (digit_any _ _ (by omega) (by omega))))
            go_wp2_with fail
            go_ret2
            have hq : (x - 48) * 10 + (y - 48) = 10 * (x - 48) + (y - 48) := by omega
            refine ⟨?_, ⟨rfl, rfl, rfl, Nat.le_refl _, fun _ _ => rfl⟩⟩
            rw [hq]
            rfl
          | false =>
            have hn : numB s = none := by rw [numB, if_neg h1, if_pos h2, hd, he, hz]; rfl
            rw [hn]
            have b0 : ((s[0]'i0).toNat : Int) = 48 := by rw [hbt]; simpa using hz
            have hx : bt s 0 = 48 := by simpa using hz
            rw [hx] at HD
            clear hn
            go_enter Tryz.func211, Tryz.ntmps211
            go_wp2_with fail
            refine (HD.out).mono ?_
            rintro e w' ⟨rfl, hw⟩
            obtain rfl := hw.symm
            go_wp2_with fail
            refine (HE.out).mono ?_
            rintro e w' ⟨rfl, hw⟩
            obtain rfl := hw.symm
            go_wp2_with fail
            go_ret2
            exact ⟨rfl, Below.refl _ _⟩
        | false =>
          rw [he] at HE
          have hn : numB s = none := by rw [numB, if_neg h1, if_pos h2, hd, he]; rfl
          rw [hn]
          clear hn
          go_enter Tryz.func211, Tryz.ntmps211
          go_wp2_with fail
          refine (HD.out).mono ?_
          rintro e w' ⟨rfl, hw⟩
          obtain rfl := hw.symm
          go_wp2_with fail
          refine (HE.out).mono ?_
          rintro e w' ⟨rfl, hw⟩
          obtain rfl := hw.symm
          go_wp2_with fail
          go_ret2
          exact ⟨rfl, Below.refl _ _⟩
      | false =>
        rw [hd] at HD
        have hn : numB s = none := by rw [numB, if_neg h1, if_pos h2, hd]; rfl
        rw [hn]
        clear hn
        go_enter Tryz.func211, Tryz.ntmps211
        go_wp2_with fail
        refine (HD.out).mono ?_
        rintro e w' ⟨rfl, hw⟩
        obtain rfl := hw.symm
        go_wp2_with fail
        go_ret2
        exact ⟨rfl, Below.refl _ _⟩
    · have e2 : ((s.size : Int) == 2) = false := beq_eq_false_iff_ne.2 (by omega)
      have hn : numB s = none := by rw [numB, if_neg h1, if_neg h2]
      rw [hn]
      clear hn
      go_enter Tryz.func211, Tryz.ntmps211
      go_wp2_with fail
      go_ret2
      exact ⟨rfl, Below.refl _ _⟩
/-- k numbers of Go's int, made anew, lie at the heap's old end. -/
structure MadeI (w w' : World) (V n : Nat) (f : Nat → Int) : Prop where
  below : Below w.heap.size w w'
  row : ∀ j, j < n → w'.cell? ⟨V, j, none⟩ = some (.int .i64 (f j))
  free : ∀ j, j < n → w'.frozen? ⟨V, j, none⟩ = false
  ge : w.heap.size ≤ V
  lt : V < w'.heap.size
theorem MadeI.start (w : World) (n : Nat) (t : TypeId) : MadeI w (w.alloc (.cells (madeCells #[.int .i64 0] n) t)) w.heap.size n (fun _ => 0) :=
  ⟨(Below.refl _ w).alloc (Nat.le_refl _) _, fun j hj => by rw [World.cell?_alloc_new]; simp [madeCells, hj, Nat.mod_one], fun j _ => by rw [World.frozen?_alloc_new], Nat.le_refl _, by simp⟩
theorem MadeI.kept {w w1 w2 : World} {V n : Nat} {f : Nat → Int} (h : MadeI w w1 V n f) (hb : Below w1.heap.size w1 w2) : MadeI w w2 V n f :=
  ⟨h.below.trans (hb.mono h.below.size), fun j hj => (hb.cell h.lt).trans (h.row j hj), fun j hj => (hb.frozen h.lt).trans (h.free j hj), h.ge, Nat.lt_of_lt_of_le h.lt hb.size⟩
theorem MadeI.store {w w' : World} {V n : Nat} {f g : Nat → Int} (h : MadeI w w' V n f) (i : Nat) (x : Int) (hi : i < n) (hg : ∀ j, j < n → (if j = i then x else f j) = g j) : MadeI w (w'.setCell ⟨V, i, none⟩ (.int .i64 x)) V n g := by
  refine ⟨h.below.setCell h.ge _, fun j hj => ?_, fun j hj => by rw [World.frozen?_setCell]; exact h.free j hj, h.ge, by rw [World.size_setCell]; exact h.lt⟩
  rw [← hg j hj]
  by_cases e : j = i
  · subst e; rw [World.cell?_setCell_same _ _ _ (h.row j hj), if_pos rfl]
  · rw [World.cell?_setCell_other _ _ _ _ (by intro e2; simp only [Addr.mk.injEq] at e2; omega), if_neg e]; exact h.row j hj
theorem Tryz.infoI : (Tryz.prog.info? 3).map (fun i => (i.zero, i.size, i.bytes)) = some (some (.int .i64 0), 1, 8) := by kernel_rfl
/-- k texts lie in block b from place o on. -/
def SRow (w : World) (b o n : Nat) (s : Nat → ByteArray) : Prop := ∀ j, j < n → w.cell? ⟨b, o + j, none⟩ = some (.string (s j))
/-- The numbers that k texts tell, if each tells one. -/
def numsB (s : Nat → ByteArray) (j : Nat) : Int := (numB (s j)).getD 0

set_option maxHeartbeats 1000000 in
set_option maxRecDepth 100000 in
theorem rnums_any (b off n cap : Nat) (s : Nat → ByteArray) (w : World) (hn : n ≤ 5000) (hb : b < w.heap.size) (hr : SRow w b off n s) :
    Calls Tryz.prog 199 #[.slice (some ⟨b, off, none⟩) n cap] w fun e w' =>
      ((∀ j, j < n → numB (s j) ≠ none) ∧ e = .returned (.tuple #[.slice (some ⟨w.heap.size, 0, none⟩) n n, .bool true]) ∧ MadeI w w' w.heap.size n (numsB s)) ∨
      ((∃ j, j < n ∧ numB (s j) = none) ∧ e = .returned (.tuple #[.slice none 0 0, .bool false]) ∧ Below w.heap.size w w') := by
  have HR := hid hr
  clear hr
  have hmk := run_make_row' (P := Tryz.prog) 147 3 (.int .i64 0) 8 Tryz.underlying147 Tryz.infoI rfl .i64 .i64 n (by omega) (by omega)
  go_enter Tryz.func199, Tryz.ntmps199
  go_wp2_with fail
  clear hmk
  have HM0 := hid (MadeI.start w n 3)
  obtain ⟨V, hV⟩ : ∃ V, w.heap.size = V := ⟨_, rfl⟩
  rw [hV] at HM0 ⊢
  have HVE := hid hV
  clear hV
  generalize w.alloc (.cells (madeCells #[.int .i64 0] n) 3) = W0 at HM0 ⊢
  go_loopg [14] n (fun q i wr => ∃ k : Nat, k ≤ n ∧ q = n - k ∧ i = .int .i64 (k : Int) ∧ Hid (MadeI w wr V n (fun j => if j < k then numsB s j else 0)) ∧ Hid (∀ j, j < k → numB (s j) ≠ none))
  case atStart => exact ⟨0, by omega, rfl, rfl, hid ⟨HM0.out.below, fun j hj => by rw [if_neg (by omega)]; exact HM0.out.row j hj, HM0.out.free, HM0.out.ge, HM0.out.lt⟩, hid (fun j hj => absurd hj (by omega))⟩
  case round =>
    clear HM0
    obtain ⟨k, hk, rfl, rfl, HM, HD⟩ := hrel
    by_cases hlt : k < n
    · have c1 : wr.cell? ⟨b, off + k, none⟩ = some (.string (s k)) := (HM.out.below.cell hb).trans (HR.out k hlt)
      obtain ⟨sk, hsk⟩ : ∃ x, s k = x := ⟨_, rfl⟩
      rw [hsk] at c1
      have HSK := hid hsk
      clear hsk
      have k0 : (0 : Int) ≤ (k : Int) := by omega
      have k1 : (k : Int) < (n : Int) := by omega
      go_wp2_with fail
      refine (rnum_any sk wr).mono ?_
      rintro e w1 ⟨rfl, hb1⟩
      have HM1 := hid (HM.out.kept hb1)
      have c3 := HM1.out.row k hlt
      have f3 := HM1.out.free k hlt
      rw [if_neg (by omega)] at c3
      clear hb1 HM c1
      cases hnb : numB sk with
      | none =>
        go_wp2_with fail
        go_ret2
        exact .inr ⟨⟨k, hlt, by rw [HSK.out]; exact hnb⟩, rfl, HM1.out.below⟩
      | some x =>
        have HNB := hid hnb
        clear hnb
        go_wp2_with fail
        go_roundg (n - (k + 1))
        case measure => go_light; omega
        case rel =>
          refine ⟨k + 1, by omega, rfl, by go_num, hid (HM1.out.store k x hlt fun j hj => ?_), hid fun j hj => ?_⟩
          · by_cases e : j = k
            · subst e; rw [if_pos rfl, if_pos (by omega), numsB, HSK.out, HNB.out]; rfl
            · rw [if_neg e]
              by_cases h2 : j < k
              · rw [if_pos h2, if_pos (by omega)]
              · rw [if_neg h2, if_neg (by omega)]
          · by_cases e : j < k
            · exact HD.out j e
            · rw [show j = k from by omega, HSK.out, HNB.out]; simp
    · have e : k = n := by omega
      subst e
      go_wp2_with fail
      go_ret2
      refine .inl ⟨HD.out, by rw [HVE.out]; rfl, ?_⟩
      rw [HVE.out]
      exact ⟨HM.out.below, fun j hj => by have := HM.out.row j hj; rw [if_pos hj] at this; exact this, HM.out.free, HM.out.ge, HM.out.lt⟩

end Go.Proofs.YtiohbjnnfkadnaaGreatDoor

/-
  Circuits that a call itself makes: a list of layers that is appended to, and each layer's list of gates; what append and a store leave, what stays.
-/
namespace Go.Proofs.YtiohbjnnfkadnaaGreatDoor
open Go.RowKit
set_option linter.unusedVariables false

theorem Tryz.infoG : (Tryz.prog.info? 128).map (fun i => (i.zero.map (·.cells), i.size, i.bytes)) = some (some #[.bool false, .int .i64 0, .int .i64 0], 3, 24) := by kernel_rfl
theorem Tryz.infoY : (Tryz.prog.info? 126).map (fun i => (i.zero.map (·.cells), i.size, i.bytes)) = some (some #[.int .i64 0, .slice none 0 0], 2, 32) := by kernel_rfl
/-- Gates as the cells of a row. -/
def gcells (gs : List GQ) : List Value := gs.flatMap fun g => [.bool g.mul, .int .i64 g.a, .int .i64 g.b]
theorem gcells_len (gs : List GQ) : (gcells gs).length = gs.length * 3 := by
  induction gs with
  | nil => rfl
  | cons g r ih => simp only [gcells, List.flatMap_cons, List.length_append, List.length_cons, List.length_nil] at ih ⊢; omega
theorem gcells_at (gs : List GQ) : ∀ (j : Nat) (g : GQ), gs[j]? = some g → (gcells gs)[3 * j]? = some (.bool g.mul) ∧ (gcells gs)[3 * j + 1]? = some (.int .i64 g.a) ∧ (gcells gs)[3 * j + 2]? = some (.int .i64 g.b) := by
  induction gs with
  | nil => intro j g h; simp at h
  | cons x r ih =>
    intro j g h
    cases j with
    | zero => simp at h; subst h; simp [gcells]
    | succ j =>
      have := ih j g (by simpa using h)
      have e : gcells (x :: r) = .bool x.mul :: .int .i64 x.a :: .int .i64 x.b :: gcells r := by simp [gcells]
      rw [e, show 3 * (j + 1) = 3 * j + 1 + 1 + 1 from by omega]
      simpa using this
theorem gcells_snoc (gs : List GQ) (g : GQ) : gcells (gs ++ [g]) = gcells gs ++ [.bool g.mul, .int .i64 g.a, .int .i64 g.b] := by simp [gcells]
/-- Layers, each with its list's value, as the cells of a row. -/
def lcells (ps : List (LQ × Value)) : List Value := ps.flatMap fun p => [.int .i64 p.1.log, p.2]
theorem lcells_len (ps : List (LQ × Value)) : (lcells ps).length = ps.length * 2 := by
  induction ps with
  | nil => rfl
  | cons g r ih => simp only [lcells, List.flatMap_cons, List.length_append, List.length_cons, List.length_nil] at ih ⊢; omega
theorem lcells_at (ps : List (LQ × Value)) : ∀ (j : Nat) (p : LQ × Value), ps[j]? = some p → (lcells ps)[2 * j]? = some (.int .i64 p.1.log) ∧ (lcells ps)[2 * j + 1]? = some p.2 := by
  induction ps with
  | nil => intro j g h; simp at h
  | cons x r ih =>
    intro j g h
    cases j with
    | zero => simp at h; subst h; simp [lcells]
    | succ j =>
      have := ih j g (by simpa using h)
      have e : lcells (x :: r) = .int .i64 x.1.log :: x.2 :: lcells r := by simp [lcells]
      rw [e, show 2 * (j + 1) = 2 * j + 1 + 1 from by omega]
      simpa using this
theorem lcells_snoc (ps : List (LQ × Value)) (p : LQ × Value) : lcells (ps ++ [p]) = lcells ps ++ [.int .i64 p.1.log, p.2] := by simp [lcells]
theorem lcells_last (ps : List (LQ × Value)) (l : LQ) (u v : Value) (gs : List GQ) : (lcells (ps ++ [(l, u)])).set (2 * ps.length + 1) v = lcells (ps ++ [(⟨l.log, gs⟩, v)]) := by
  rw [lcells_snoc, lcells_snoc]
  have hl := lcells_len ps
  rw [List.set_append_right _ _ (by omega), show 2 * ps.length + 1 - (lcells ps).length = 1 from by omega]
  rfl

/-- v is a list of layers of the call's own; ps: the layers, and the values that their lists of gates have. -/
structure OwnC (w : World) (base : Nat) (v : Value) (ps : List (LQ × Value)) : Prop where
  own : w.ownsRow base 126 2 v ps.length (lcells ps)
  gates : ∀ p ∈ ps, w.ownsRow base 128 3 p.2 p.1.gates.length (gcells p.1.gates)
  apart : ∀ p ∈ ps, ∀ b, p.2.ownBlock = some b → v.ownBlock ≠ some b
  each : ps.Pairwise fun p q => ∀ b, p.2.ownBlock = some b → q.2.ownBlock ≠ some b
theorem OwnC.nil (w : World) (base : Nat) : OwnC w base (.slice none 0 0) [] :=
  ⟨World.ownsRow_nil w base _ 2, by simp, by simp, List.Pairwise.nil⟩
theorem owns_kept {w w' : World} {base : Nat} {e : TypeId} {size : Nat} {v : Value} {n : Nat} {xs : List Value} (h : w.ownsRow base e size v n xs) (hb : Below w.heap.size w w') : w'.ownsRow base e size v n xs := by
  refine ⟨h.1, ?_⟩
  rcases h.2 with h2 | ⟨g, cap, cur, hv, hg, hh, r⟩
  · exact .inl h2
  · exact .inr ⟨g, cap, cur, hv, hg, (hb.block g (Array.getElem?_eq_some_iff.1 hh).1).trans hh, r⟩
theorem OwnC.kept {w w' : World} {base : Nat} {v : Value} {ps : List (LQ × Value)} (h : OwnC w base v ps) (hb : Below w.heap.size w w') : OwnC w' base v ps :=
  ⟨owns_kept h.own hb, fun p hp => owns_kept (h.gates p hp) hb, h.apart, h.each⟩
/-- What is changed lies below, or in another block than all of it. -/
theorem OwnC.grown {w w' : World} {base : Nat} {v : Value} {ps : List (LQ × Value)} {row : Option Nat} (h : OwnC w base v ps) (hg : w.grownBy w' row) (h1 : v.ownBlock = none ∨ v.ownBlock ≠ row) (h2 : ∀ p ∈ ps, p.2.ownBlock = none ∨ p.2.ownBlock ≠ row) : OwnC w' base v ps :=
  ⟨h.own.kept hg h1, fun p hp => (h.gates p hp).kept hg (h2 p hp), h.apart, h.each⟩
theorem ne_own {a row : Option Nat} (h : ∀ b, a = some b → row ≠ some b) : a = none ∨ a ≠ row := by
  cases a with
  | none => exact .inl rfl
  | some b => exact .inr (fun e => h b rfl e.symm)
/-- One layer more: what append left. -/
theorem OwnC.layer {w w' : World} {base : Nat} {v : Value} {ps : List (LQ × Value)} {g cap : Nat} {log : Int} (h : OwnC w base v ps)
    (ho : w'.ownsRow base 126 2 (.slice (some ⟨g, 0, none⟩) (ps.length + 1) cap) (ps.length + 1) (lcells ps ++ [.int .i64 log, .slice none 0 0])) (hg : w.grownBy w' v.ownBlock) (hat : v.ownBlock = some g ∨ w.heap.size ≤ g) :
    OwnC w' base (.slice (some ⟨g, 0, none⟩) (ps.length + 1) cap) (ps ++ [(⟨log, []⟩, .slice none 0 0)]) := by
  refine ⟨by rw [lcells_snoc, List.length_append]; exact ho, fun p hp => ?_, fun p hp b hb => ?_, ?_⟩
  · rcases List.mem_append.1 hp with hp | hp
    · exact (h.gates p hp).kept hg (ne_own (h.apart p hp))
    · simp at hp; subst hp; exact World.ownsRow_nil w' base _ 3
  · rcases List.mem_append.1 hp with hp | hp
    · intro e
      have eg : g = b := by simpa [Value.ownBlock] using e
      rcases hat with e1 | e1
      · exact h.apart p hp b hb (by rw [e1, eg])
      · have := ((h.gates p hp).lt b hb).2; omega
    · simp at hp; subst hp; simp [Value.ownBlock] at hb
  · refine List.pairwise_append.2 ⟨h.each, List.pairwise_singleton _ _, fun p hp q hq b hb => ?_⟩
    simp at hq; subst hq; simp [Value.ownBlock]
/-- One gate more in the last layer: what append and the store behind it left. -/
theorem OwnC.gate {w w1 : World} {base : Nat} {vb vc : Nat} {qs : List (LQ × Value)} {l : LQ} {gv : Value} {g cap : Nat} {x : GQ} (h : OwnC w base (.slice (some ⟨vb, 0, none⟩) (qs.length + 1) vc) (qs ++ [(l, gv)]))
    (ho : w1.ownsRow base 128 3 (.slice (some ⟨g, 0, none⟩) (l.gates.length + 1) cap) (l.gates.length + 1) (gcells l.gates ++ [.bool x.mul, .int .i64 x.a, .int .i64 x.b])) (hg : w.grownBy w1 gv.ownBlock) (hat : gv.ownBlock = some g ∨ w.heap.size ≤ g) :
    OwnC (w1.setCell ⟨vb, 2 * qs.length + 1, none⟩ (.slice (some ⟨g, 0, none⟩) (l.gates.length + 1) cap)) base (.slice (some ⟨vb, 0, none⟩) (qs.length + 1) vc) (qs ++ [(⟨l.log, l.gates ++ [x]⟩, .slice (some ⟨g, 0, none⟩) (l.gates.length + 1) cap)]) := by
  have hlast : (l, gv) ∈ qs ++ [(l, gv)] := by simp
  have hv := (h.own.lt vb rfl).2
  have hne : g ≠ vb := fun e => by
    rcases hat with e1 | e1
    · exact h.apart _ hlast g e1 (by rw [e]; rfl)
    · omega
  have hown1 : w1.ownsRow base 126 2 (.slice (some ⟨vb, 0, none⟩) (qs.length + 1) vc) (qs.length + 1) (lcells (qs ++ [(l, gv)])) := by
    have := h.own
    rw [List.length_append] at this
    refine this.kept hg (.inr fun e => ?_)
    exact h.apart _ hlast vb e.symm rfl
  have hst := hown1.stored (2 * qs.length + 1) (.slice (some ⟨g, 0, none⟩) (l.gates.length + 1) cap)
  rw [lcells_last qs l gv _ (l.gates ++ [x])] at hst
  have hq : ∀ p ∈ qs, ∀ b, p.2.ownBlock = some b → gv.ownBlock ≠ some b := fun p hp b hb => (List.pairwise_append.1 h.each).2.2 p hp (l, gv) (by simp) b hb
  refine ⟨by rw [List.length_append]; exact hst.1, fun p hp => ?_, fun p hp b hb => ?_, ?_⟩
  · rcases List.mem_append.1 hp with hp2 | hp2
    · refine ((h.gates p (by simp [hp2])).kept hg (ne_own (hq p hp2))).kept hst.2 (ne_own fun b hb => ?_)
      exact h.apart p (by simp [hp2]) b hb
    · simp at hp2; subst hp2
      refine World.ownsRow.kept (by rw [gcells_snoc, List.length_append]; exact ho) hst.2 (.inr fun e => hne ?_)
      simpa [Value.ownBlock] using e
  · rcases List.mem_append.1 hp with hp2 | hp2
    · exact h.apart p (by simp [hp2]) b hb
    · simp at hp2; subst hp2
      intro e
      have e1 : g = b := by simpa [Value.ownBlock] using hb
      have e2 : vb = b := by simpa [Value.ownBlock] using e
      exact hne (e1.trans e2.symm)
  · refine List.pairwise_append.2 ⟨(List.pairwise_append.1 h.each).1, List.pairwise_singleton _ _, fun p hp q hq2 b hb => ?_⟩
    simp at hq2; subst hq2
    intro e
    have e1 : g = b := by simpa [Value.ownBlock] using e
    rcases hat with e2 | e2
    · exact hq p hp b hb (by rw [e2, e1])
    · have := ((h.gates p (by simp [hp])).lt b hb).2; omega
/-- The address that a list's value has. -/
def adrV : Value → Option Addr
  | .slice a _ _ => a
  | _ => none
def capV : Value → Nat
  | .slice _ _ c => c
  | _ => 0
theorem GRow.of_own {w : World} {base : Nat} {v : Value} {gs : List GQ} (h : w.ownsRow base 128 3 v gs.length (gcells gs)) : v = .slice (adrV v) gs.length (capV v) ∧ GRow w (adrV v) gs ∧ gs.length ≤ capV v ∧ gs.length ≤ maxLen := by
  rcases h.2 with ⟨rfl, h0⟩ | ⟨g, cap, cur, rfl, _, _, hc, hm, _⟩
  · exact ⟨by rw [h0]; rfl, fun hne => absurd (List.eq_nil_of_length_eq_zero h0) hne, by omega, by omega⟩
  · refine ⟨rfl, fun _ => ⟨g, 0, rfl, fun j x hx => ?_⟩, hc, Nat.le_trans hc hm⟩
    have hj : j < gs.length := (List.getElem?_eq_some_iff.1 hx).1
    obtain ⟨e0, e1, e2⟩ := gcells_at gs j x hx
    refine ⟨?_, ?_, ?_⟩
    · rw [Nat.zero_add, h.cellAt _ (by omega), e0]
    · rw [Nat.zero_add, h.cellAt _ (by omega), e1]
    · rw [Nat.zero_add, h.cellAt _ (by omega), e2]
/-- It lies in memory as a circuit that came in does. -/
theorem OwnC.row {w : World} {base : Nat} {v : Value} {ps : List (LQ × Value)} (h : OwnC w base v ps) : v = .slice (adrV v) ps.length (capV v) ∧ ps.length ≤ capV v ∧ capV v ≤ maxLen ∧
    CRow w (adrV v) (ps.map (·.1)) (fun i => adrV ((ps[i]?.map (·.2)).getD (.slice none 0 0))) (fun i => capV ((ps[i]?.map (·.2)).getD (.slice none 0 0))) := by
  have ho := h.own
  rcases ho.2 with ⟨rfl, h0⟩ | ⟨g, cap, cur, rfl, _, _, hc, hm, _⟩
  · exact ⟨by rw [h0]; rfl, by omega, Nat.zero_le _, fun hne => absurd (by rw [List.eq_nil_of_length_eq_zero h0]; rfl) hne⟩
  · refine ⟨rfl, hc, hm, fun _ => ⟨g, 0, rfl, fun i l hl => ?_⟩⟩
    obtain ⟨p, hp, rfl⟩ : ∃ p, ps[i]? = some p ∧ p.1 = l := by
      rw [List.getElem?_map] at hl
      cases hp : ps[i]? with
      | none => rw [hp] at hl; cases hl
      | some p => rw [hp] at hl; exact ⟨p, rfl, by simpa using hl⟩
    have hj : i < ps.length := (List.getElem?_eq_some_iff.1 hp).1
    obtain ⟨e0, e1⟩ := lcells_at ps i p hp
    have hG := GRow.of_own (h.gates p (List.mem_of_getElem? hp))
    simp only [hp, Option.map_some, Option.getD_some]
    refine ⟨?_, ?_, hG.2.1, hG.2.2.1⟩
    · rw [Nat.zero_add, ho.cellAt _ (by omega), e0]
    · rw [Nat.zero_add, ho.cellAt _ (by omega), e1, ← hG.1]

end Go.Proofs.YtiohbjnnfkadnaaGreatDoor

/-
  Plain: a text's pieces by the library's words (split, cut), and a text that is cut line by line; no program in it.
-/
namespace Go.Proofs.YtiohbjnnfkadnaaGreatDoor
set_option linter.unusedVariables false

theorem split_pieces (c : UInt8) : ∀ s : List UInt8, Lib.splitK [c] 0 (Lib.count s [c]) s = piecesL c s
  | [] => by
    have h : Lib.count [] [c] = 0 := by rw [Lib.count_one]; rfl
    rw [h]; rfl
  | b :: l => by
    have ih := split_pieces c l
    by_cases h : b = c
    · subst h
      have hix : Lib.index (b :: l) [b] = 0 := by rw [Lib.index]; simp [List.isPrefixOf]
      rw [Lib.count_cons_eq, Nat.add_comm, Lib.splitK, hix, piecesL, if_pos rfl, ← ih]
      simp
    · rw [Lib.count_cons_ne b c l h, piecesL, if_neg h, ← ih]
      have hp : ([c] : List UInt8).isPrefixOf (b :: l) = false := by simp [List.isPrefixOf, Ne.symm h]
      have hix : Lib.index (b :: l) [c] = if Lib.index l [c] == -1 then -1 else Lib.index l [c] + 1 := by rw [Lib.index, hp]; simp
      by_cases hm : Lib.index l [c] = -1
      · rw [Lib.count_miss hm]; rfl
      · have hge := Lib.index_ge l [c]
        obtain ⟨j, hj⟩ : ∃ j : Nat, Lib.index l [c] = j := ⟨(Lib.index l [c]).toNat, by omega⟩
        have hix' : Lib.index (b :: l) [c] = ((j + 1 : Nat) : Int) := by rw [hix, if_neg (fun e => hm (beq_iff_eq.1 e)), hj]; omega
        have n1 : ¬ ((((j + 1 : Nat) : Int) == -1) = true) := fun e => by have := beq_iff_eq.1 e; omega
        have n2 : ¬ ((((j : Nat) : Int) == -1) = true) := fun e => by have := beq_iff_eq.1 e; omega
        obtain ⟨k, hk⟩ : ∃ k, Lib.count l [c] = k + 1 := ⟨Lib.count (l.drop (j + 1)) [c], by rw [Lib.count_hit (by simp) hj]; simp [Nat.add_comm]⟩
        rw [hk, Lib.splitK, Lib.splitK, hix', hj, if_neg n1, if_neg n2]
        simp
/-- What the library's Split answers, of one byte. -/
theorem splitB_pieces (c : UInt8) (s : ByteArray) : (Lib.splitB ⟨#[c]⟩ 0 (Lib.countB s ⟨#[c]⟩) s).map (·.data.toList) = piecesL c s.data.toList := by
  rw [Lib.splitB_data]
  exact split_pieces c s.data.toList
theorem splitB_count (c : UInt8) (s : ByteArray) : (Lib.splitB ⟨#[c]⟩ 0 (Lib.countB s ⟨#[c]⟩) s).length = Lib.countB s ⟨#[c]⟩ + 1 :=
  Lib.splitB_all ⟨#[c]⟩ (Nat.le_refl 1) 0 _ s rfl

/-- A text cut at the first byte of one sort. -/
def cutL (b : UInt8) : List UInt8 → Option (List UInt8 × List UInt8)
  | [] => none
  | x :: r => if x = b then some ([], r) else (cutL b r).map fun q => (x :: q.1, q.2)
theorem cut_cutL (b : UInt8) : ∀ s : List UInt8, Lib.cut s [b] = match cutL b s with | some q => (q.1, q.2, true) | none => (s, [], false)
  | [] => by simp [Lib.cut, Lib.index, cutL]
  | x :: r => by
    have ih := cut_cutL b r
    by_cases h : x = b
    · subst h
      have hix : Lib.index (x :: r) [x] = 0 := by rw [Lib.index]; simp [List.isPrefixOf]
      simp [Lib.cut, hix, cutL]
    · have hp : ([b] : List UInt8).isPrefixOf (x :: r) = false := by simp [List.isPrefixOf, Ne.symm h]
      have hix : Lib.index (x :: r) [b] = if Lib.index r [b] == -1 then -1 else Lib.index r [b] + 1 := by rw [Lib.index, hp]; simp
      have hge := Lib.index_ge r [b]
      rw [cutL, if_neg h]
      by_cases hm : Lib.index r [b] = -1
      · have hix2 : Lib.index (x :: r) [b] = -1 := by rw [hix, if_pos (beq_iff_eq.2 hm)]
        rw [Lib.cut, hm] at ih
        cases hc : cutL b r with
        | none => simp [Lib.cut, hix2]
        | some q => rw [hc] at ih; simp at ih
      · obtain ⟨j, hj⟩ : ∃ j : Nat, Lib.index r [b] = j := ⟨(Lib.index r [b]).toNat, by omega⟩
        have hix2 : Lib.index (x :: r) [b] = ((j + 1 : Nat) : Int) := by rw [hix, if_neg (fun e => hm (beq_iff_eq.1 e)), hj]; omega
        rw [Lib.cut, hj, if_pos (by omega)] at ih
        cases hc : cutL b r with
        | none => rw [hc] at ih; simp at ih
        | some q =>
          rw [hc] at ih
          simp at ih
          rw [Lib.cut, hix2, if_pos (by omega)]
          simp [← ih.1, ← ih.2]
theorem pieces_cut {b : UInt8} {s p r : List UInt8} (h : cutL b s = some (p, r)) : piecesL b s = p :: piecesL b r := by
  induction s generalizing p r with
  | nil => simp [cutL] at h
  | cons x s ih =>
    rw [cutL] at h
    rw [piecesL]
    by_cases e : x = b
    · rw [if_pos e] at h ⊢
      simp at h
      obtain ⟨rfl, rfl⟩ := h
      rfl
    · rw [if_neg e] at h ⊢
      cases hc : cutL b s with
      | none => rw [hc] at h; simp at h
      | some q =>
        rw [hc] at h
        simp at h
        obtain ⟨rfl, rfl⟩ := h
        rw [ih (p := q.1) (r := q.2) hc]
theorem pieces_uncut {b : UInt8} {s : List UInt8} (h : cutL b s = none) : piecesL b s = [s] := by
  induction s with
  | nil => rfl
  | cons x s ih =>
    rw [cutL] at h
    rw [piecesL]
    by_cases e : x = b
    · rw [if_pos e] at h; simp at h
    · rw [if_neg e] at h ⊢
      cases hc : cutL b s with
      | none => rw [ih hc]
      | some q => rw [hc] at h; simp at h
theorem cut_length {b : UInt8} {s p r : List UInt8} (h : cutL b s = some (p, r)) : p.length + r.length + 1 = s.length := by
  induction s generalizing p r with
  | nil => simp [cutL] at h
  | cons x s ih =>
    rw [cutL] at h
    by_cases e : x = b
    · rw [if_pos e] at h
      simp at h
      obtain ⟨rfl, rfl⟩ := h
      simp
    · rw [if_neg e] at h
      cases hc : cutL b s with
      | none => rw [hc] at h; simp at h
      | some q =>
        rw [hc] at h
        simp at h
        obtain ⟨rfl, rfl⟩ := h
        have := ih (p := q.1) (r := q.2) hc
        simp
        omega

/-- The lines from line i on (from 0), of what is left of a text. -/
def textFrom (i : Nat) (c : CQ) (s : List UInt8) : Except Nat CQ :=
  if (piecesL 10 s).getLast (piecesL_ne 10 s) = [] ∧ (0 < i ∨ 1 < (piecesL 10 s).length) then linesQ i c (piecesL 10 s).dropLast
  else match linesQ i c (piecesL 10 s).dropLast with
    | .ok _ => .error (i + (piecesL 10 s).length)
    | .error n => .error n
theorem textFrom_all (s : List UInt8) : textFrom 0 ⟨0, []⟩ s = textQ s := by
  unfold textFrom textQ
  simp only [Nat.lt_irrefl, false_or, Nat.zero_add]
  rfl
theorem textFrom_last {i : Nat} {c : CQ} {s : List UInt8} (h : cutL 10 s = none) (hi : i = 0 ∨ s ≠ []) : textFrom i c s = .error (i + 1) := by
  have hp := pieces_uncut h
  unfold textFrom
  simp only [hp, List.getLast_singleton, List.length_singleton, Nat.lt_irrefl, or_false, List.dropLast_singleton, linesQ]
  rw [if_neg]
  rintro ⟨h1, h2⟩
  rcases hi with hi | hi
  · omega
  · exact hi h1
theorem textFrom_end (i : Nat) (c : CQ) (hi : 0 < i) : textFrom i c [] = .ok c := by
  unfold textFrom
  simp only [piecesL, List.getLast_singleton, List.length_singleton, List.dropLast_singleton, linesQ]
  rw [if_pos (by simp [hi])]
theorem textFrom_line {i : Nat} {c : CQ} {s p r : List UInt8} (h : cutL 10 s = some (p, r)) : textFrom i c s = match (lineQ p).bind (stepQ i c) with | some c' => textFrom (i + 1) c' r | none => .error (i + 1) := by
  have hp := pieces_cut h
  have hne := piecesL_ne 10 r
  unfold textFrom
  simp only [hp]
  rw [List.getLast_cons hne, List.dropLast_cons_of_ne_nil hne]
  simp only [linesQ, List.length_cons]
  have hlen : 0 < (piecesL 10 r).length := List.length_pos_iff.2 hne
  cases hs : (lineQ p).bind (stepQ i c) with
  | none =>
    split <;> rfl
  | some c' =>
    dsimp only
    by_cases hl : (piecesL 10 r).getLast hne = []
    · rw [if_pos ⟨hl, .inr (by omega)⟩, if_pos ⟨hl, .inl (by omega)⟩]
    · rw [if_neg (fun h => hl h.1), if_neg (fun h => hl h.1)]
      rw [show i + ((piecesL 10 r).length + 1) = i + 1 + (piecesL 10 r).length from by omega]

end Go.Proofs.YtiohbjnnfkadnaaGreatDoor

/-
  Contracts of strconv.Itoa (numbers of one or two digits), of package circuit's printLine and gateWord; nothing that was there is written.
-/
namespace Go.Proofs.YtiohbjnnfkadnaaGreatDoor
open Go.RowKit
set_option linter.unusedVariables false
attribute [local go_sem ↓] Go.wp_at_zero Go.wp_at_succ

theorem digits_all : ((List.range 100).all fun i => decide (Lib.decDigits i = digsQ (i : Int)) && decide ((digsQ (i : Int)).length ≤ 2)) = true := by decide +kernel
theorem digits_is {n : Int} (h0 : 0 ≤ n) (h1 : n < 100) : Lib.decDigits n.toNat = digsQ n ∧ (digsQ n).length ≤ 2 := by
  have := List.all_eq_true.1 digits_all n.toNat (List.mem_range.2 (by omega))
  rw [show ((n.toNat : Nat) : Int) = n from by omega] at this
  simpa using this
/-- A number's text. -/
theorem itoa_any (n : Int) (w : World) (h0 : 0 ≤ n) (h1 : n < 100) : Calls Tryz.prog 25 #[.int .i64 n] w fun e w' => ∃ t : ByteArray, e = .returned (.string t) ∧ t.data.toList = digsQ n ∧ t.size ≤ 2 ∧ w' = w := by
  obtain ⟨i, rfl⟩ : ∃ i : Nat, n = (i : Int) := ⟨n.toNat, by omega⟩
  obtain ⟨e1, e2⟩ := digits_is h0 h1
  rw [Int.toNat_natCast] at e1
  refine (Tryz.strconv_Itoa_small i (by omega) w).mono fun e w' ⟨he, hw⟩ => ⟨⟨(Lib.decDigits i).toArray⟩, he, ?_, ?_, hw⟩
  · rw [e1]
  · rw [e1]; exact e2
def digB (n : Int) : ByteArray := ⟨(digsQ n).toArray⟩
theorem digB_data (n : Int) : (digB n).data.toList = digsQ n := rfl
theorem digB_size {n : Int} (h0 : 0 ≤ n) (h1 : n < 100) : (digB n).size ≤ 2 := (digits_is h0 h1).2
theorem itoa_at (n : Int) (w : World) (h0 : 0 ≤ n) (h1 : n < 100) : Calls Tryz.prog 25 #[.int .i64 n] w fun e w' => e = .returned (.string (digB n)) ∧ w' = w := by
  obtain ⟨i, rfl⟩ : ∃ i : Nat, n = (i : Int) := ⟨n.toNat, by omega⟩
  obtain ⟨e1, e2⟩ := digits_is h0 h1
  rw [Int.toNat_natCast] at e1
  rw [digB, ← e1]
  exact Tryz.strconv_Itoa_small i (by omega) w
/-- k numbers of Go's int lie in block b from place o on. -/
def IRowT (w : World) (b o n : Nat) (f : Nat → Int) : Prop := ∀ j, j < n → w.cell? ⟨b, o + j, none⟩ = some (.int .i64 (f j))
/-- Numbers, each with a blank ahead. -/
def numsT (f : Nat → Int) : Nat → List UInt8
  | 0 => []
  | k + 1 => numsT f k ++ 32 :: digsQ (f k)
theorem data_cat (a b : ByteArray) : (a ++ b).data.toList = a.data.toList ++ b.data.toList := by simp [ByteArray.data_append]

set_option maxHeartbeats 1000000 in
set_option maxRecDepth 100000 in
theorem pline_any (wd : ByteArray) (b off k cap : Nat) (f : Nat → Int) (w : World) (hk : k ≤ 2) (hwd : wd.size ≤ 10) (hr : IRowT w b off k f) (hf : ∀ j, j < k → 0 ≤ f j ∧ f j < 100) :
    Calls Tryz.prog 109 #[.string wd, .slice (some ⟨b, off, none⟩) k cap] w fun e w' => ∃ t : ByteArray, e = .returned (.string t) ∧ t.data.toList = wd.data.toList ++ numsT f k ++ [10] ∧ t.size ≤ 17 ∧ w' = w := by
  have HR := hid hr
  have HF := hid hf
  clear hr hf
  go_enter Tryz.func109, Tryz.ntmps109
  go_wp2_with fail
  go_loopg [5, 11] k (fun q s i wr => ∃ (t : Nat) (T : ByteArray), t ≤ k ∧ q = k - t ∧ s = .string T ∧ i = .int .i64 (t : Int) ∧ wr = w ∧ Hid (T.data.toList = wd.data.toList ++ numsT f t) ∧ T.size ≤ 10 + 3 * t)
  case atStart => exact ⟨0, wd, by omega, rfl, rfl, rfl, rfl, hid (by simp [numsT]), by omega⟩
  case round =>
    obtain ⟨t, T, ht, rfl, rfl, rfl, hw, HT, ts⟩ := hrel
    obtain rfl := hw.symm
    by_cases htk : t < k
    · have c1 := HR.out t htk
      obtain ⟨x, hx⟩ : ∃ x, f t = x := ⟨_, rfl⟩
      obtain ⟨x0, x1⟩ := HF.out t htk
      rw [hx] at c1 x0 x1
      have HX := hid hx
      have t0 : (0 : Int) ≤ (t : Int) := by omega
      have t1 : (t : Int) < (k : Int) := by omega
      clear hx
      go_wp2_with fail
      refine (itoa_any x w x0 x1).mono ?_
      rintro e w' ⟨d, rfl, hd, ds, hw⟩
      obtain rfl := hw.symm
      have HD := hid hd
      clear hd
      go_wp2_with fail
      go_roundg (k - (t + 1))
      case measure => go_light; omega
      case rel => exact ⟨t + 1, _, by omega, rfl, rfl, by go_num, rfl, hid (by rw [data_cat, data_cat, HT.out, HD.out, numsT, HX.out, List.append_assoc]; rfl), by simp only [ByteArray.size_append]; have : (ByteArray.mk #[32]).size = 1 := rfl; omega⟩
    · have e : t = k := by omega
      subst e
      go_wp2_with fail
      go_ret
      exact ⟨_, rfl, by rw [data_cat, HT.out, List.append_assoc], by simp only [ByteArray.size_append]; have : (ByteArray.mk #[10]).size = 1 := rfl; omega, rfl⟩
/-- A gate's first word. -/
def gword (m : Bool) : ByteArray := if m then ⟨#[109, 117, 108]⟩ else ⟨#[97, 100, 100]⟩
theorem gword_size (m : Bool) : (gword m).size = 3 := by cases m <;> rfl
theorem gword_data (m : Bool) : (gword m).data.toList = if m then wMul else wAdd := by cases m <;> rfl
set_option maxHeartbeats 400000 in
theorem gword_any (m : Bool) (a b : Int) (w : World) :
    Calls Tryz.prog 110 #[.agg #[.bool m, .int .i64 a, .int .i64 b]] w fun e w' => e = .returned (.string (gword m)) ∧ Below w.heap.size w w' := by
  cases m with
  | true =>
    go_enter Tryz.func110, Tryz.ntmps110
    go_wp2_with fail
    go_ret
    exact ⟨rfl, (Below.refl _ w).alloc (Nat.le_refl _) _⟩
  | false =>
    go_enter Tryz.func110, Tryz.ntmps110
    go_wp2_with fail
    go_ret
    exact ⟨rfl, (Below.refl _ w).alloc (Nat.le_refl _) _⟩

/-- The text of the inputs and of the first k layers. -/
def txtQ (c : CQ) (k : Nat) : List UInt8 := printT (Ln.inputs c.log :: layersT (c.layers.take k))
/-- The text of a layer and of its first t gates. -/
def txtL (l : LQ) (t : Nat) : List UInt8 := printT (Ln.layer l.log :: gatesT (l.gates.take t))
theorem printT_cat (a b : List Ln) : printT (a ++ b) = printT a ++ printT b := by simp [printT]
theorem printT_one (x : Ln) : printT [x] = lineT x ++ [10] := by simp [printT]
theorem txtQ_next {c : CQ} {k : Nat} {l : LQ} (h : c.layers[k]? = some l) : txtQ c k ++ txtL l l.gates.length = txtQ c (k + 1) := by
  have ht : c.layers.take (k + 1) = c.layers.take k ++ [l] := by rw [List.take_add_one, h]; rfl
  unfold txtQ txtL
  rw [ht, List.take_length, ← printT_cat]
  simp [layersT]
theorem txtL_next {l : LQ} {t : Nat} {x : GQ} (h : l.gates[t]? = some x) : txtL l (t + 1) = txtL l t ++ (lineT (Ln.gate x) ++ [10]) := by
  have ht : l.gates.take (t + 1) = l.gates.take t ++ [x] := by rw [List.take_add_one, h]; rfl
  unfold txtL
  rw [ht, ← printT_one, ← printT_cat]
  simp [gatesT]
theorem txtL_zero (l : LQ) : txtL l 0 = wLayer ++ 32 :: digsQ l.log ++ [10] := by simp [txtL, gatesT, printT, lineT]
theorem txtQ_zero (c : CQ) : txtQ c 0 = wInputs ++ 32 :: digsQ c.log ++ [10] := by simp [txtQ, layersT, printT, lineT]
theorem txtQ_all (c : CQ) : txtQ c c.layers.length = printQ c := by simp [txtQ, printQ, linesT]

end Go.Proofs.YtiohbjnnfkadnaaGreatDoor

/-
  A contract of package circuit's Print, for every circuit; it makes new blocks and writes nothing that was there.
-/
namespace Go.Proofs.YtiohbjnnfkadnaaGreatDoor
open Go.RowKit
set_option linter.unusedVariables false
attribute [local go_sem ↓] Go.wp_at_zero Go.wp_at_succ

theorem irow_one (w : World) (x : Int) (t : TypeId) : IRowT (w.alloc (.cells #[.int .i64 x] t)) w.heap.size 0 1 (fun _ => x) := fun j hj => by
  match j, hj with
  | 0, _ => rw [World.cell?_alloc_new]; rfl
def twoF (x y : Int) (j : Nat) : Int := if j = 0 then x else y
theorem irow_two (w : World) (x y : Int) (t : TypeId) : IRowT (w.alloc (.cells #[.int .i64 x, .int .i64 y] t)) w.heap.size 0 2 (twoF x y) := fun j hj => by
  match j, hj with
  | 0, _ => rw [World.cell?_alloc_new]; rfl
  | 1, _ => rw [World.cell?_alloc_new]; rfl
theorem IRowT.kept {w w' : World} {b o n : Nat} {f : Nat → Int} (h : IRowT w b o n f) (hb : Below w.heap.size w w') (hl : b < w.heap.size) : IRowT w' b o n f := fun j hj => (hb.cell hl).trans (h j hj)

set_option maxHeartbeats 1000000 in
theorem print_bad (c : CQ) (g : Int) (ao : Option Addr) (n cap : Nat) (A : Nat → Option Addr) (C : Nat → Nat) (x : Int) (w : World) (hg : c.log = g) (hn : c.layers.length = n) (hr : CRow w ao c.layers A C) (hx : checkE c x) (hx0 : x ≠ 0) :
    Calls Tryz.prog 74 #[.agg #[.int .i64 g, .slice ao n cap]] w fun e w' => e = .returned (.tuple #[.string ⟨#[]⟩, .int .i64 x]) ∧ Below w.heap.size w w' := by
  have hal := (Below.refl w.heap.size w).alloc (Nat.le_refl _) (.cells #[.int .i64 g, .slice ao n cap] 88)
  have HC := hid (check_any c g ao n cap A C _ hg hn (hr.kept hal))
  have HX := hid hx
  have HAL := hid hal
  have e1 : (x != 0) = true := by simp [hx0]
  clear hr hx hal hg hn
  go_enter Tryz.func74, Tryz.ntmps74
  go_wp2_with fail
  refine (HC.out).mono ?_
  rintro e w1 ⟨y, rfl, hy, hb⟩
  obtain rfl := checkE_one hy HX.out
  have HB := hid (HAL.out.trans (hb.mono HAL.out.size))
  clear hb hy HX HC HAL
  go_wp2_with fail
  go_ret2
  exact ⟨rfl, HB.out⟩

set_option maxHeartbeats 1000000 in
set_option maxRecDepth 100000 in
theorem print_ok (c : CQ) (g : Int) (b off n cap : Nat) (A : Nat → Option Addr) (C : Nat → Nat) (w : World) (hg : c.log = g) (hn : c.layers.length = n) (hc : c.right) (hr : CRow w (some ⟨b, off, none⟩) c.layers A C) :
    Calls Tryz.prog 74 #[.agg #[.int .i64 g, .slice (some ⟨b, off, none⟩) n cap]] w fun e w' => ∃ t : ByteArray, e = .returned (.tuple #[.string t, .int .i64 0]) ∧ t.data.toList = printQ c ∧ t.size ≤ 4096 ∧ Below w.heap.size w w' := by
  have g0 : 0 ≤ g := by have := hc.log; omega
  have g1 : g < 100 := by have := hc.log; omega
  have n4 : n ≤ 4 := by have := hc.few; omega
  have hal := (Below.refl w.heap.size w).alloc (Nat.le_refl _) (.cells #[.int .i64 g, .slice (some ⟨b, off, none⟩) n cap] 88)
  have HC := hid (check_any c g _ n cap A C _ hg hn (hr.kept hal))
  have HX0 := hid (Box2.new w (.int .i64 g) (.slice (some ⟨b, off, none⟩) n cap) 88)
  have HX := hid (checkE_zero.2 hc)
  have HAL := hid hal
  have HG := hid hg
  have HN := hid hn
  have HRT := hid hc
  have HR := hid hr
  clear hg hn hc hr hal
  go_enter Tryz.func74, Tryz.ntmps74
  go_wp2_with fail
  refine (HC.out).mono ?_
  rintro e w1 ⟨y, rfl, hy, hb⟩
  obtain rfl := checkE_one hy HX.out
  have HB := hid (HAL.out.trans (hb.mono HAL.out.size))
  have HX1 := hid (HX0.out.kept hb)
  obtain ⟨z0, z1, zl⟩ := HX1.out
  obtain ⟨B, hB⟩ : ∃ B, w.heap.size = B := ⟨_, rfl⟩
  rw [hB] at z0 z1 zl HX1 ⊢
  have HBE := hid hB
  clear hb hy HX HC HAL HX0 hB
  go_wp2_with fail
  refine (pline_any ⟨#[105, 110, 112, 117, 116, 115]⟩ w1.heap.size 0 1 1 (fun _ => g) _ (by omega) (by decide) (irow_one w1 g _) (fun _ _ => ⟨g0, g1⟩)).mono ?_
  rintro e w2 ⟨T0, rfl, hT0, hS0, hw⟩
  obtain rfl := hw.symm
  have hal2 := (Below.refl w1.heap.size w1).alloc (Nat.le_refl _) (.cells #[.int .i64 g] 3)
  have HX2 := hid (HX1.out.kept hal2)
  have HB2 := hid (HB.out.trans (hal2.mono HB.out.size))
  have HT0 : Hid (T0.data.toList = txtQ c 0) := hid (by rw [hT0, txtQ_zero, HG.out]; simp [numsT, wInputs])
  clear hT0 hal2 HX1 HB z0 z1 zl
  generalize w1.alloc (.cells #[.int .i64 g] 3) = W0 at HX2 HB2 ⊢
  obtain ⟨z0, z1, zl⟩ := HX2.out
  go_wp2_with fail
  clear z0 z1 zl HX2
  go_loopg [5, 22] n (fun q s i wr => ∃ (k : Nat) (T : ByteArray), k ≤ n ∧ q = n - k ∧ s = .string T ∧ i = .int .i64 (k : Int) ∧ Hid (Below w.heap.size w wr) ∧ Hid (T.data.toList = txtQ c k) ∧ T.size ≤ 100 + 400 * k)
  case atStart => exact ⟨0, T0, by omega, rfl, rfl, rfl, HB2, HT0, by omega⟩
  case round =>
    clear HB2 HT0 hS0
    obtain ⟨k, T, hk, rfl, rfl, rfl, HB, HT, tsz⟩ := hrel
    by_cases hlt : k < n
    · obtain ⟨l, hl⟩ : ∃ l, c.layers[k]? = some l := ⟨c.layers[k]'(by rw [HN.out]; exact hlt), by simp⟩
      obtain ⟨b', off', eb, hcell⟩ := HR.out.kept HB.out (by intro e; have := HN.out; rw [e] at this; simp at this; omega)
      cases eb
      obtain ⟨y0, y1, y2, y3⟩ := hcell k l hl
      have hlr := HRT.out.layer k l hl
      have mr := (lenQ_rng HRT.out (k + 1) (by rw [HN.out]; omega)).2
      rw [← lenQ_layer HRT.out hl] at mr
      have nr := (lenQ_rng HRT.out k (by rw [HN.out]; omega)).2
      rw [Nat.mul_comm 2 k] at y0 y1
      obtain ⟨lg, hlg⟩ : ∃ x, l.log = x := ⟨_, rfl⟩
      obtain ⟨m, hm⟩ : ∃ x, l.gates.length = x := ⟨_, rfl⟩
      obtain ⟨ga, hga⟩ : ∃ x, A k = x := ⟨_, rfl⟩
      obtain ⟨gc, hgc⟩ : ∃ x, C k = x := ⟨_, rfl⟩
      have hlgr := hlr.1
      rw [hlg] at y0 hlgr
      rw [hm, hga, hgc] at y1
      rw [hm] at mr
      obtain ⟨l0, l1⟩ := hlgr
      have HGR : Hid (GRow w ga l.gates) := hid (by obtain ⟨_, _, e, h⟩ := HR.out (by intro e; have := HN.out; rw [e] at this; simp at this; omega); have := (h k l hl).2.2.1; rw [hga] at this; exact this)
      have HOK : Hid (∀ q ∈ l.gates, (0 ≤ q.a ∧ q.a < 100) ∧ 0 ≤ q.b ∧ q.b < 100) := hid fun q hq => by
        obtain ⟨⟨p1, p2⟩, p3, p4⟩ := hlr.2.2 q hq
        have e1 : ((2 ^ (belowQ c k).toNat : Nat) : Int) ≤ 16 := by have := nr; unfold lenQ at this; omega
        omega
      have HL := hid hl
      have HLG := hid hlg
      have HM := hid hm
      clear hcell y2 y3 hl hlg hm hga hgc hlr nr
      have k0 : (0 : Int) ≤ (k : Int) := by omega
      have k1 : (k : Int) < (n : Int) := by omega
      have hal := (Below.refl wr.heap.size wr).alloc (Nat.le_refl _) (.cells #[.int .i64 lg, .slice ga m gc] 126)
      have HB1 := hid (HB.out.trans (hal.mono HB.out.size))
      have HX1 := hid (Box2.new wr (.int .i64 lg) (.slice ga m gc) 126)
      clear hal
      go_wp2_with fail
      obtain ⟨Y, hY⟩ : ∃ Y, wr.heap.size = Y := ⟨_, rfl⟩
      have e9 : (wr.alloc (.cells #[.int .i64 lg, .slice ga m gc] 126)).heap.size = Y + 1 := by rw [← hY]; simp
      rw [hY] at HX1 ⊢
      rw [← e9]
      clear hY e9 y0 y1 HB
      generalize wr.alloc (.cells #[.int .i64 lg, .slice ga m gc] 126) = W1 at HB1 HX1 ⊢
      refine (pline_any ⟨#[108, 97, 121, 101, 114]⟩ W1.heap.size 0 1 1 (fun _ => lg) _ (by omega) (by decide) (irow_one W1 lg _) (fun _ _ => ⟨l0, by omega⟩)).mono ?_
      rintro e w3 ⟨T1, rfl, hT1, hS1, hw⟩
      obtain rfl := hw.symm
      have hal2 := (Below.refl W1.heap.size W1).alloc (Nat.le_refl _) (.cells #[.int .i64 lg] 3)
      have HB2 := hid (HB1.out.trans (hal2.mono HB1.out.size))
      have HX2 := hid (HX1.out.kept hal2)
      clear hal2 HB1 HX1
      generalize W1.alloc (.cells #[.int .i64 lg] 3) = W2 at HB2 HX2 ⊢
      obtain ⟨x0, x1, xl⟩ := HX2.out
      have HT1 : Hid ((T ++ T1).data.toList = txtQ c k ++ txtL l 0) := hid (by rw [data_cat, HT.out, hT1, txtL_zero, HLG.out]; simp [numsT, wLayer])
      have hS2 : (T ++ T1).size ≤ 120 + 400 * k := by rw [ByteArray.size_append]; omega
      clear hT1
      go_wp2_with fail
      clear HT tsz hS1 x0 x1 xl HX2
      generalize T ++ T1 = T2 at HT1 hS2 ⊢
      go_loopg [5, 35] m (fun q s i wx => ∃ (t : Nat) (T : ByteArray), t ≤ m ∧ q = m - t ∧ s = .string T ∧ i = .int .i64 (t : Int) ∧ Hid (Below w.heap.size w wx) ∧ Hid (T.data.toList = txtQ c k ++ txtL l t) ∧ T.size ≤ 120 + 400 * k + 20 * t)
      case atStart => exact ⟨0, T2, by omega, rfl, rfl, rfl, HB2, HT1, by omega⟩
      case round =>
        clear HB2 HT1 hS2
        obtain ⟨t, T, ht, rfl, rfl, rfl, HB, HT, tsz⟩ := hrel
        by_cases htl : t < m
        · obtain ⟨x, hx⟩ : ∃ x, l.gates[t]? = some x := ⟨l.gates[t]'(by rw [HM.out]; exact htl), by simp⟩
          obtain ⟨gb, go, rfl, hgc⟩ := HGR.out.kept HB.out (by intro e; have := HM.out; rw [e] at this; simp at this; omega)
          obtain ⟨q0, q1, q2⟩ := hgc t x hx
          obtain ⟨⟨a0, a1⟩, b0, b1⟩ := HOK.out x (List.mem_of_getElem? hx)
          rw [Nat.mul_comm 3 t] at q0 q1 q2
          obtain ⟨xm, hxm⟩ : ∃ v, x.mul = v := ⟨_, rfl⟩
          obtain ⟨xa, hxa⟩ : ∃ v, x.a = v := ⟨_, rfl⟩
          obtain ⟨xb, hxb⟩ : ∃ v, x.b = v := ⟨_, rfl⟩
          rw [hxm] at q0
          rw [hxa] at q1 a0 a1
          rw [hxb] at q2 b0 b1
          have HXX := hid (And.intro hx (And.intro hxm (And.intro hxa hxb)))
          clear hgc hx hxm hxa hxb
          have t0 : (0 : Int) ≤ (t : Int) := by omega
          have t1 : (t : Int) < (m : Int) := by omega
          have hal := (Below.refl wr.heap.size wr).alloc (Nat.le_refl _) (.cells #[.bool xm, .int .i64 xa, .int .i64 xb] 128)
          have HB3 := hid (HB.out.trans (hal.mono HB.out.size))
          have HPL : Hid (∀ (b : Nat) (W : World), IRowT W b 0 2 (twoF xa xb) → Calls Tryz.prog 109 #[.string (gword xm), .slice (some ⟨b, 0, none⟩) 2 2] W fun e w' => ∃ d : ByteArray, e = .returned (.string d) ∧ (d.data.toList = (gword xm).data.toList ++ numsT (twoF xa xb) 2 ++ [10] ∧ d.size ≤ 17) ∧ w' = W) := hid fun b W hr =>
            (pline_any (gword xm) b 0 2 2 (twoF xa xb) W (by omega) (by rw [gword_size]; omega) hr (fun j hj => by match j, hj with | 0, _ => exact ⟨a0, a1⟩ | 1, _ => exact ⟨b0, b1⟩)).mono fun e w' ⟨d, h1, h2, h3, h4⟩ => ⟨d, h1, ⟨h2, h3⟩, h4⟩
          clear hal
          go_wp2_with fail
          have g0' : (wr.alloc (.cells #[.bool xm, .int .i64 xa, .int .i64 xb] 128)).cell? ⟨wr.heap.size, 0, none⟩ = some (.bool xm) := by rw [World.cell?_alloc_new]; rfl
          have g1' : (wr.alloc (.cells #[.bool xm, .int .i64 xa, .int .i64 xb] 128)).cell? ⟨wr.heap.size, 1, none⟩ = some (.int .i64 xa) := by rw [World.cell?_alloc_new]; rfl
          have g2' : (wr.alloc (.cells #[.bool xm, .int .i64 xa, .int .i64 xb] 128)).cell? ⟨wr.heap.size, 2, none⟩ = some (.int .i64 xb) := by rw [World.cell?_alloc_new]; rfl
          have gl : wr.heap.size < (wr.alloc (.cells #[.bool xm, .int .i64 xa, .int .i64 xb] 128)).heap.size := by simp
          obtain ⟨Gb, hGb⟩ : ∃ G, wr.heap.size = G := ⟨_, rfl⟩
          rw [hGb] at g0' g1' g2' gl ⊢
          clear hGb q0 q1 q2
          generalize wr.alloc (.cells #[.bool xm, .int .i64 xa, .int .i64 xb] 128) = W3 at HB3 g0' g1' g2' gl ⊢
          have hA0 : ∀ o, (W3.alloc o).cell? ⟨Gb, 0, none⟩ = some (.bool xm) := fun o => by rw [World.cell?_alloc_old _ _ _ (Nat.ne_of_lt gl)]; exact g0'
          have hA1 : ∀ o, (W3.alloc o).cell? ⟨Gb, 1, none⟩ = some (.int .i64 xa) := fun o => by rw [World.cell?_alloc_old _ _ _ (Nat.ne_of_lt gl)]; exact g1'
          have hA2 : ∀ o, (W3.alloc o).cell? ⟨Gb, 2, none⟩ = some (.int .i64 xb) := fun o => by rw [World.cell?_alloc_old _ _ _ (Nat.ne_of_lt gl)]; exact g2'
          have HGA : Hid (∀ o, Below W3.heap.size W3 (W3.alloc o)) := hid fun o => (Below.refl _ W3).alloc (Nat.le_refl _) o
          go_region_held3 (fun w' => w'.cell? ⟨Gb, 0, none⟩ = some (.bool xm) ∧ w'.cell? ⟨Gb, 1, none⟩ = some (.int .i64 xa) ∧ w'.cell? ⟨Gb, 2, none⟩ = some (.int .i64 xb)) (first | exact ⟨g0', g1', g2'⟩ | exact ⟨hA0 _, hA1 _, hA2 _⟩ | exact ⟨c0, c1, c2⟩ | exact hC _) (first
            | (go_at_call 110; refine (gword_any xm xa xb _).mono ?_; rintro e w4 ⟨rfl, hb4⟩; have hbW : Below W3.heap.size W3 w4 := (by first | exact (Below.refl _ W3).drew.trans hb4 | exact ((HGA.out _).drew).trans (hb4.mono (HGA.out _).size)); have c0 : w4.cell? ⟨Gb, 0, none⟩ = some (.bool xm) := (hbW.cell gl).trans g0'; have c1 : w4.cell? ⟨Gb, 1, none⟩ = some (.int .i64 xa) := (hbW.cell gl).trans g1'; have c2 : w4.cell? ⟨Gb, 2, none⟩ = some (.int .i64 xb) := (hbW.cell gl).trans g2'; have HB4 := hid (HB3.out.trans (hbW.mono HB3.out.size)); have gl4 : Gb < w4.heap.size := Nat.lt_of_lt_of_le gl hbW.size; have hC : ∀ o, (w4.alloc o).cell? ⟨Gb, 0, none⟩ = some (.bool xm) ∧ (w4.alloc o).cell? ⟨Gb, 1, none⟩ = some (.int .i64 xa) ∧ (w4.alloc o).cell? ⟨Gb, 2, none⟩ = some (.int .i64 xb) := fun o => ⟨(World.cell?_alloc_old _ _ _ (Nat.ne_of_lt gl4)).trans c0, (World.cell?_alloc_old _ _ _ (Nat.ne_of_lt gl4)).trans c1, (World.cell?_alloc_old _ _ _ (Nat.ne_of_lt gl4)).trans c2⟩)
            | (go_at_call 109; refine (HPL.out _ _ (by first | exact irow_two _ _ _ _ | exact (irow_two W3 xa xb 3).kept ⟨hb4.os, hb4.tape, hb4.output, hb4.size, hb4.block⟩ (by simp))).mono ?_; rintro e w5 ⟨d, rfl, hd, hw⟩; obtain rfl := hw.symm; have s4 := fun w => run_string_add_sum (P := Tryz.prog) w T d (by omega)))
          all_goals (go_wp2_with fail)
          all_goals (go_roundg (m - (t + 1)))
          all_goals first | (go_light; omega) | skip
          all_goals
            refine ⟨t + 1, _, by omega, rfl, rfl, by go_num, hid ?_, hid ?_, ?_⟩
            · first | exact HB4.out | exact HB4.out.alloc HB4.out.size _ | exact (HB4.out.alloc HB4.out.size _).drew
            · obtain ⟨e1, e2, e3, e4⟩ := HXX.out
              rw [data_cat, hd.1, gword_data, txtL_next e1, HT.out]
              have h1 : numsT (twoF xa xb) 2 = 32 :: digsQ xa ++ 32 :: digsQ xb := by simp [numsT, twoF]
              rw [h1]
              simp [lineT, e2, e3, e4]
            · rw [ByteArray.size_append]; have := hd.2; omega
        · have e : t = m := by omega
          subst e
          go_wp2_with fail
          go_roundg (n - (k + 1))
          case measure => go_light; omega
          case rel =>
            refine ⟨k + 1, _, by omega, rfl, rfl, by go_num, HB, hid ?_, by omega⟩
            rw [HT.out, ← HM.out, txtQ_next HL.out]
    · have e : k = n := by omega
      subst e
      go_wp2_with fail
      go_ret2
      refine ⟨T, rfl, ?_, by omega, HB.out⟩
      rw [HT.out, ← HN.out, txtQ_all]

end Go.Proofs.YtiohbjnnfkadnaaGreatDoor

/-
  A contract of package circuit's readLine, for every line; what it makes is new, and it writes into the circuit alone that it was handed.
-/
namespace Go.Proofs.YtiohbjnnfkadnaaGreatDoor
open Go.RowKit Go.PlainAid
set_option linter.unusedVariables false
attribute [local go_sem ↓] Go.wp_at_zero Go.wp_at_succ

/-- A circuit that is read: it lies in block cb, its lists are the call's own. -/
structure PS (B0 : Nat) (w : World) (cb base : Nat) (c : CQ) (v : Value) (ps : List (LQ × Value)) : Prop where
  box0 : w.cell? ⟨cb, 0, none⟩ = some (.int .i64 c.log)
  box1 : w.cell? ⟨cb, 1, none⟩ = some v
  fr0 : w.frozen? ⟨cb, 0, none⟩ = false
  fr1 : w.frozen? ⟨cb, 1, none⟩ = false
  own : OwnC w base v ps
  lay : c.layers = ps.map (·.1)
  lt : cb < base
  le : base ≤ w.heap.size
  ge : B0 ≤ cb
theorem PS.kept {B0 : Nat} {w w' : World} {cb base : Nat} {c : CQ} {v : Value} {ps : List (LQ × Value)} (h : PS B0 w cb base c v ps) (hb : Below w.heap.size w w') : PS B0 w' cb base c v ps :=
  have hl := Nat.lt_of_lt_of_le h.lt h.le
  ⟨(hb.cell hl).trans h.box0, (hb.cell hl).trans h.box1, (hb.frozen hl).trans h.fr0, (hb.frozen hl).trans h.fr1, h.own.kept hb, h.lay, h.lt, Nat.le_trans h.le hb.size, h.ge⟩
theorem OwnC.setBelow {w : World} {base : Nat} {v : Value} {ps : List (LQ × Value)} (h : OwnC w base v ps) {a : Addr} (ha : a.block < base) (u : Value) : OwnC (w.setCell a u) base v ps :=
  ⟨ownsRow_setCell_below h.own ha u, fun p hp => ownsRow_setCell_below (h.gates p hp) ha u, h.apart, h.each⟩
/-- The first line: the inputs. -/
theorem PS.inputs {B0 : Nat} {w : World} {cb base : Nat} {c : CQ} {v : Value} {ps : List (LQ × Value)} (h : PS B0 w cb base c v ps) (n : Int) : PS B0 (w.setCell ⟨cb, 0, none⟩ (.int .i64 n)) cb base ⟨n, c.layers⟩ v ps :=
  ⟨World.cell?_setCell_same _ _ _ h.box0, by rw [World.cell?_setCell_other _ _ _ _ (by intro e; simp at e)]; exact h.box1, by rw [World.frozen?_setCell]; exact h.fr0, by rw [World.frozen?_setCell]; exact h.fr1, h.own.setBelow h.lt _, h.lay, h.lt, by rw [World.size_setCell]; exact h.le, h.ge⟩

theorem infoY_parts : ∃ (i : TypeInfo) (z : Value), Tryz.prog.info? 126 = some i ∧ i.zero = some z ∧ i.size = 2 ∧ i.bytes = 32 ∧ z.cells.size = 2 := by
  have h := Tryz.infoY
  cases hi : Tryz.prog.info? 126 with
  | none => rw [hi] at h; simp at h
  | some i =>
    rw [hi] at h
    simp at h
    obtain ⟨⟨z, hz, hc⟩, h1, h2⟩ := h
    exact ⟨i, z, rfl, hz, h1, h2, by rw [hc]; rfl⟩
theorem infoG_parts : ∃ (i : TypeInfo) (z : Value), Tryz.prog.info? 128 = some i ∧ i.zero = some z ∧ i.size = 3 ∧ i.bytes = 24 ∧ z.cells.size = 3 := by
  have h := Tryz.infoG
  cases hi : Tryz.prog.info? 128 with
  | none => rw [hi] at h; simp at h
  | some i =>
    rw [hi] at h
    simp at h
    obtain ⟨⟨z, hz, hc⟩, h1, h2⟩ := h
    exact ⟨i, z, rfl, hz, h1, h2, by rw [hc]; rfl⟩
/-- What stands below what is the call's own stays behind an append. -/
theorem grown_low {w w' : World} {row : Option Nat} {base b p : Nat} (hg : w.grownBy w' row) (hr : ∀ k, row = some k → base ≤ k) (hb : b < base) (hl : base ≤ w.heap.size) : w'.cell? ⟨b, p, none⟩ = w.cell? ⟨b, p, none⟩ ∧ w'.frozen? ⟨b, p, none⟩ = w.frozen? ⟨b, p, none⟩ := by
  have e : w'.heap[b]? = w.heap[b]? := hg.block b (by omega) (fun e => by have := hr b e.symm; omega)
  exact ⟨World.cell?_of_block (w := w) e, World.frozen?_of_block (w := w) e⟩
theorem grown_dry {w w2 : World} {r : Option Nat} (h : w.drew.grownBy w2 r) : w.grownBy w2 r := ⟨h.os, h.tape, h.output, h.size, h.block⟩
theorem news_all (w : World) (cs : List Value) (t : TypeId) : ∀ j u, cs[j]? = some u → (w.alloc (.cells cs.toArray t)).drew.cell? ((⟨w.heap.size, 0, none⟩ : Addr).add j) = some u := by
  intro j u hj
  have hadd : (⟨w.heap.size, 0, none⟩ : Addr).add j = ⟨w.heap.size, j, none⟩ := by unfold Addr.add; split <;> simp_all
  rw [hadd]
  show (w.alloc (.cells cs.toArray t)).cell? _ = _
  rw [World.cell?_alloc_new]
  simpa using hj
theorem one_layer (x : Int) : ∀ u ∈ [Value.int .i64 x, Value.slice none 0 0], u.oneCell' = true := by
  intro u hu
  simp at hu
  rcases hu with rfl | rfl <;> rfl
theorem one_gate (m : Bool) (x y : Int) : ∀ u ∈ [Value.bool m, Value.int .i64 x, Value.int .i64 y], u.oneCell' = true := by
  intro u hu
  simp at hu
  rcases hu with rfl | rfl | rfl <;> rfl
/-- One layer more. -/
theorem PS.layer {B0 : Nat} {w w6 : World} {cb base : Nat} {c : CQ} {v : Value} {ps : List (LQ × Value)} {g cap : Nat} {n : Int} (h : PS B0 w cb base c v ps)
    (ho : w6.ownsRow base 126 2 (.slice (some ⟨g, 0, none⟩) (ps.length + 1) cap) (ps.length + 1) (lcells ps ++ [.int .i64 n, .slice none 0 0])) (hg : w.grownBy w6 v.ownBlock) (hat : v.ownBlock = some g ∨ w.heap.size ≤ g) :
    PS B0 (w6.setCell ⟨cb, 1, none⟩ (.slice (some ⟨g, 0, none⟩) (ps.length + 1) cap)) cb base ⟨c.log, c.layers ++ [⟨n, []⟩]⟩ (.slice (some ⟨g, 0, none⟩) (ps.length + 1) cap) (ps ++ [(⟨n, []⟩, .slice none 0 0)]) := by
  have hlow := fun p => grown_low (p := p) hg (fun k hk => (h.own.own.lt k hk).1) h.lt h.le
  have hO := h.own.layer ho hg hat
  refine ⟨?_, World.cell?_setCell_same _ _ _ ((hlow 1).1.trans h.box1), ?_, ?_, hO.setBelow h.lt _, by rw [h.lay]; simp, h.lt, by rw [World.size_setCell]; exact Nat.le_trans h.le hg.size, h.ge⟩
  · rw [World.cell?_setCell_other _ _ _ _ (by intro e; simp at e), (hlow 0).1]; exact h.box0
  · rw [World.frozen?_setCell, (hlow 0).2]; exact h.fr0
  · rw [World.frozen?_setCell, (hlow 1).2]; exact h.fr1
/-- One gate more. -/
theorem PS.gate {B0 : Nat} {w w6 : World} {cb base : Nat} {c : CQ} {vb vc : Nat} {qs : List (LQ × Value)} {l : LQ} {gv : Value} {g cap : Nat} {x : GQ} (h : PS B0 w cb base c (.slice (some ⟨vb, 0, none⟩) (qs.length + 1) vc) (qs ++ [(l, gv)]))
    (ho : w6.ownsRow base 128 3 (.slice (some ⟨g, 0, none⟩) (l.gates.length + 1) cap) (l.gates.length + 1) (gcells l.gates ++ [.bool x.mul, .int .i64 x.a, .int .i64 x.b])) (hg : w.grownBy w6 gv.ownBlock) (hat : gv.ownBlock = some g ∨ w.heap.size ≤ g) :
    PS B0 (w6.setCell ⟨vb, 2 * qs.length + 1, none⟩ (.slice (some ⟨g, 0, none⟩) (l.gates.length + 1) cap)) cb base ⟨c.log, gateTo c.layers x⟩ (.slice (some ⟨vb, 0, none⟩) (qs.length + 1) vc) (qs ++ [(⟨l.log, l.gates ++ [x]⟩, .slice (some ⟨g, 0, none⟩) (l.gates.length + 1) cap)]) := by
  have hgl := h.own.gates (l, gv) (by simp)
  have hlow := fun p => grown_low (p := p) hg (fun k hk => (hgl.lt k hk).1) h.lt h.le
  have hO := h.own.gate ho hg hat
  have hvb := (h.own.own.lt vb rfl).1
  have hlt := h.lt
  have far : ∀ p, (w6.setCell ⟨vb, 2 * qs.length + 1, none⟩ (.slice (some ⟨g, 0, none⟩) (l.gates.length + 1) cap)).cell? ⟨cb, p, none⟩ = w.cell? ⟨cb, p, none⟩ := fun p => by
    rw [World.cell?_setCell_other _ _ _ _ (by intro e; simp only [Addr.mk.injEq] at e; omega)]; exact (hlow p).1
  refine ⟨(far 0).trans h.box0, (far 1).trans h.box1, ?_, ?_, hO, ?_, h.lt, by rw [World.size_setCell]; exact Nat.le_trans h.le hg.size, h.ge⟩
  · rw [World.frozen?_setCell, (hlow 0).2]; exact h.fr0
  · rw [World.frozen?_setCell, (hlow 1).2]; exact h.fr1
  · show gateTo c.layers x = _
    rw [h.lay, List.map_append, List.map_append]
    exact gateTo_snoc _ _ _

/-- A line's words, as the numbers behind the first one are read. -/
theorem line_bad {P : List ByteArray} {line : List UInt8} (hp : P.map (·.data.toList) = piecesL 32 line) (h : ∃ j, j + 1 < P.length ∧ numB ((P[j + 1]?).getD ByteArray.empty) = none) : lineQ line = none := by
  obtain ⟨j, hj, hn⟩ := h
  rw [lineQ, ← hp]
  match P, hj, hn with
  | [_, x], hj, hn =>
    have : j = 0 := by simp at hj; omega
    subst this
    have hx : numQ x.data.toList = none := by rw [numB_is]; simpa using hn
    simp [wordsQ, hx]
  | [_, x, y], hj, hn =>
    have : j = 0 ∨ j = 1 := by simp at hj; omega
    rcases this with rfl | rfl
    · have hx : numQ x.data.toList = none := by rw [numB_is]; simpa using hn
      simp [wordsQ, hx]
    · have hx : numQ y.data.toList = none := by rw [numB_is]; simpa using hn
      simp only [List.map_cons, List.map_nil, wordsQ, hx]
      split <;> first | rfl | (rename_i e; cases e)
  | _ :: _ :: _ :: _ :: _, _, _ => rfl
  | [_], hj, _ => simp at hj
theorem line_other {P : List ByteArray} {line : List UInt8} (hp : P.map (·.data.toList) = piecesL 32 line) (h : P.length ≠ 2 ∧ P.length ≠ 3) : lineQ line = none := by
  rw [lineQ, ← hp]
  match P, h with
  | [], _ => rfl
  | [_], _ => rfl
  | [_, _], h => exact absurd rfl h.1
  | [_, _, _], h => exact absurd rfl h.2
  | _ :: _ :: _ :: _ :: _, _ => rfl
theorem line_two {a x : ByteArray} {line : List UInt8} {n : Int} (hp : [a, x].map (·.data.toList) = piecesL 32 line) (hx : numB x = some n) :
    lineQ line = if a.data.toList = wInputs then some (Ln.inputs n) else if a.data.toList = wLayer then some (Ln.layer n) else none := by
  rw [← numB_is] at hx
  rw [lineQ, ← hp]
  simp [wordsQ, hx]
theorem line_three {a x y : ByteArray} {line : List UInt8} {n m : Int} (hp : [a, x, y].map (·.data.toList) = piecesL 32 line) (hx : numB x = some n) (hy : numB y = some m) :
    lineQ line = if a.data.toList = wAdd then some (Ln.gate ⟨false, n, m⟩) else if a.data.toList = wMul then some (Ln.gate ⟨true, n, m⟩) else none := by
  rw [← numB_is] at hx hy
  rw [lineQ, ← hp]
  simp [wordsQ, hx, hy]
theorem word_eq (a : ByteArray) (l : List UInt8) : (a.toList == l) = decide (a.data.toList = l) := by
  rw [Lib.toList_data]
  by_cases h : a.data.toList = l
  · simp [h]
  · rw [decide_eq_false h]; exact beq_eq_false_iff_ne.2 h

end Go.Proofs.YtiohbjnnfkadnaaGreatDoor

/-
  A contract of package circuit's readLine, for every line; what it makes is new, and it writes into the circuit alone that it was handed.
-/
namespace Go.Proofs.YtiohbjnnfkadnaaGreatDoor
open Go.RowKit Go.PlainAid
set_option linter.unusedVariables false
attribute [local go_sem ↓] Go.wp_at_zero Go.wp_at_succ

/-- The texts of a list, by their places. -/
def strF (P : List ByteArray) (j : Nat) : ByteArray := (P[j]?).getD ByteArray.empty
theorem srow_new (w : World) (P : List ByteArray) (t : TypeId) : SRow (w.alloc (.cells (P.map Value.string).toArray t)) w.heap.size 0 P.length (strF P) := fun j hj => by
  rw [Nat.zero_add, World.cell?_alloc_new]
  simp [strF, hj]
theorem SRow.kept {w w' : World} {b o n : Nat} {s : Nat → ByteArray} (h : SRow w b o n s) (hb : Below w.heap.size w w') (hl : b < w.heap.size) : SRow w' b o n s := fun j hj => (hb.cell hl).trans (h j hj)

theorem two_of {P : List ByteArray} (h : P.length = 2) : P = [strF P 0, strF P 1] := by
  match P, h with
  | [_, _], _ => rfl
theorem three_of {P : List ByteArray} (h : P.length = 3) : P = [strF P 0, strF P 1, strF P 2] := by
  match P, h with
  | [_, _, _], _ => rfl
/-- All words behind the first are numbers. -/
def allN (P : List ByteArray) : Prop := ∀ j, j + 1 < P.length → numB (strF P (j + 1)) ≠ none
theorem allN.at {P : List ByteArray} (h : allN P) (j : Nat) (hj : j + 1 < P.length) : numB (strF P (j + 1)) = some (numsB (fun j => strF P (j + 1)) j) := by
  have := h j hj
  cases e : numB (strF P (j + 1)) with
  | none => exact absurd e this
  | some x => simp [numsB, e]
section
variable {P : List ByteArray} {line : List UInt8} {i : Nat} {c : CQ} (hp : P.map (·.data.toList) = piecesL 32 line) (hall : allN P)
include hp hall
theorem step_inputs (hw : (strF P 0).data.toList = wInputs) (hl : P.length = 2) : (lineQ line).bind (stepQ i c) = if i = 0 then some ⟨numsB (fun j => strF P (j + 1)) 0, c.layers⟩ else none := by
  rw [line_two (a := strF P 0) (x := strF P 1) (by rw [← two_of hl]; exact hp) (hall.at 0 (by omega)), if_pos hw]
  rfl
theorem step_layer (hw : (strF P 0).data.toList = wLayer) (hl : P.length = 2) : (lineQ line).bind (stepQ i c) = if i = 0 then none else some ⟨c.log, c.layers ++ [⟨numsB (fun j => strF P (j + 1)) 0, []⟩]⟩ := by
  rw [line_two (a := strF P 0) (x := strF P 1) (by rw [← two_of hl]; exact hp) (hall.at 0 (by omega)), if_neg (by rw [hw]; decide), if_pos hw]
  rfl
theorem step_gate (m : Bool) (hw : (strF P 0).data.toList = if m then wMul else wAdd) (hl : P.length = 3) : (lineQ line).bind (stepQ i c) = if c.layers = [] then none else some ⟨c.log, gateTo c.layers ⟨m, numsB (fun j => strF P (j + 1)) 0, numsB (fun j => strF P (j + 1)) 1⟩⟩ := by
  rw [line_three (a := strF P 0) (x := strF P 1) (y := strF P 2) (by rw [← three_of hl]; exact hp) (hall.at 0 (by omega)) (hall.at 1 (by omega))]
  cases m with
  | true => have hw2 : (strF P 0).data.toList = wMul := hw; rw [if_neg (by rw [hw2]; decide), if_pos hw2]; rfl
  | false => have hw2 : (strF P 0).data.toList = wAdd := hw; rw [if_pos hw2]; rfl
theorem step_two_none (hl : P.length = 2) (h1 : (strF P 0).data.toList ≠ wInputs) (h2 : (strF P 0).data.toList ≠ wLayer) : (lineQ line).bind (stepQ i c) = none := by
  rw [line_two (a := strF P 0) (x := strF P 1) (by rw [← two_of hl]; exact hp) (hall.at 0 (by omega)), if_neg h1, if_neg h2]
  rfl
theorem step_three_none (hl : P.length = 3) (h1 : (strF P 0).data.toList ≠ wAdd) (h2 : (strF P 0).data.toList ≠ wMul) : (lineQ line).bind (stepQ i c) = none := by
  rw [line_three (a := strF P 0) (x := strF P 1) (y := strF P 2) (by rw [← three_of hl]; exact hp) (hall.at 0 (by omega)) (hall.at 1 (by omega)), if_neg h1, if_neg h2]
  rfl
theorem step_inputs_none (hw : (strF P 0).data.toList = wInputs) (h : ¬ (i = 0 ∧ P.length = 2)) : (lineQ line).bind (stepQ i c) = none := by
  by_cases hl : P.length = 2
  · rw [step_inputs hp hall hw hl, if_neg (fun e => h ⟨e, hl⟩)]
  · by_cases h3 : P.length = 3
    · exact step_three_none hp hall h3 (by rw [hw]; decide) (by rw [hw]; decide)
    · rw [line_other hp ⟨hl, h3⟩]; rfl
theorem step_layer_none (hw : (strF P 0).data.toList = wLayer) (h : ¬ (i ≠ 0 ∧ P.length = 2)) : (lineQ line).bind (stepQ i c) = none := by
  by_cases hl : P.length = 2
  · have : i = 0 := Classical.byContradiction fun e => h ⟨e, hl⟩
    rw [step_layer hp hall hw hl, if_pos this]
  · by_cases h3 : P.length = 3
    · exact step_three_none hp hall h3 (by rw [hw]; decide) (by rw [hw]; decide)
    · rw [line_other hp ⟨hl, h3⟩]; rfl
theorem step_gate_none (m : Bool) (hw : (strF P 0).data.toList = if m then wMul else wAdd) (h : ¬ (c.layers ≠ [] ∧ P.length = 3)) : (lineQ line).bind (stepQ i c) = none := by
  by_cases hl : P.length = 3
  · have : c.layers = [] := Classical.byContradiction fun e => h ⟨e, hl⟩
    rw [step_gate hp hall m hw hl, if_pos this]
  · by_cases h2 : P.length = 2
    · exact step_two_none hp hall h2 (by rw [hw]; cases m <;> decide) (by rw [hw]; cases m <;> decide)
    · rw [line_other hp ⟨h2, hl⟩]; rfl
theorem step_word_none (h1 : (strF P 0).data.toList ≠ wInputs) (h2 : (strF P 0).data.toList ≠ wLayer) (h3 : (strF P 0).data.toList ≠ wAdd) (h4 : (strF P 0).data.toList ≠ wMul) : (lineQ line).bind (stepQ i c) = none := by
  by_cases hl : P.length = 3
  · exact step_three_none hp hall hl h3 h4
  · by_cases hl2 : P.length = 2
    · exact step_two_none hp hall hl2 h1 h2
    · rw [line_other hp ⟨hl2, hl⟩]; rfl
end

set_option maxHeartbeats 20000000 in
set_option maxRecDepth 100000 in
theorem rline_any (B0 cb base i : Nat) (c : CQ) (v : Value) (ps : List (LQ × Value)) (line : ByteArray) (M : Int) (w : World) (hs : line.size ≤ 4096) (hi : i ≤ 5000) (hps : ps.length ≤ 5000) (hgs : ∀ p ∈ ps, p.1.gates.length ≤ 5000) (hM : w.cell? ⟨0, 0, none⟩ = some (.int .i64 M)) (hP : PS B0 w cb base c v ps) :
    Calls Tryz.prog 178 #[.pointer (some ⟨cb, 0, none⟩), .int .i64 ((i : Int) + 1), .string line] w fun e w' => Below B0 w w' ∧
      (((lineQ line.data.toList).bind (stepQ i c) = none ∧ e = .returned (.bool false)) ∨
       (∃ c' v' ps', (lineQ line.data.toList).bind (stepQ i c) = some c' ∧ e = .returned (.bool true) ∧ PS B0 w' cb base c' v' ps')) := by
  have HP := hid hP
  have HSP := hid (Tryz.strings_Split line ⟨#[32]⟩ M w (by omega) hM (Nat.le_refl 1))
  have hpc := splitB_pieces 32 line
  have hcn := splitB_count 32 line
  have hcl := Lib.countB_le ⟨#[32]⟩ (Nat.le_refl 1) line.size line (Nat.le_refl _)
  obtain ⟨m, hm⟩ : ∃ m, Lib.countB line ⟨#[32]⟩ = m := ⟨_, rfl⟩
  rw [hm] at HSP hpc hcn hcl
  obtain ⟨P, hPe⟩ : ∃ P, Lib.splitB ⟨#[32]⟩ 0 m line = P := ⟨_, rfl⟩
  rw [hPe] at HSP hpc hcn
  have HPC := hid hpc
  have HPN := hid hcn
  clear hpc hm hPe hcn hP hM
  have HSR := hid (srow_new w P 9)
  rw [HPN.out] at HSR
  go_enter Tryz.func178, Tryz.ntmps178
  go_wp2_with fail
  refine (HSP.out).mono ?_
  rintro e w1 ⟨rfl, hw1⟩
  have hal := (Below.refl w.heap.size w).alloc (Nat.le_refl _) (.cells (P.map Value.string).toArray 9)
  have HP1 := hid (HP.out.kept hal)
  have HB1 := hid (hal.mono (Nat.le_trans HP.out.ge (Nat.le_of_lt (Nat.lt_of_lt_of_le HP.out.lt HP.out.le))))
  have hWb : w.heap.size < (w.alloc (.cells (P.map Value.string).toArray 9)).heap.size := by simp
  obtain ⟨Wb, hWe⟩ : ∃ b, w.heap.size = b := ⟨_, rfl⟩
  have HWL := hid HP.out.le
  rw [← hw1] at HSR HP1 HB1 hWb
  rw [hWe] at HSR hWb HWL ⊢
  clear hw1 hal HSP HP hWe
  have c0 := HSR.out 0 (by omega)
  rw [Nat.add_zero] at c0
  obtain ⟨P0, hP0⟩ : ∃ x, strF P 0 = x := ⟨_, rfl⟩
  rw [hP0] at c0
  obtain ⟨o1, hsl, ho1⟩ : ∃ o1, (if m = 0 then (some ⟨Wb, 0, none⟩ : Option Addr) else some ⟨Wb, 1, none⟩) = some ⟨Wb, o1, none⟩ ∧ (0 < m → o1 = 1) := by
    by_cases h : m = 0
    · exact ⟨0, by rw [if_pos h], fun h2 => by omega⟩
    · exact ⟨1, by rw [if_neg h], fun _ => rfl⟩
  have m1 : (1 : Int) ≤ (m : Int) + 1 := by omega
  go_wp2_with fail
  clear hsl m1
  have HSR1 : Hid (SRow w1 Wb o1 m (fun j => strF P (j + 1))) := hid (fun j hj => by rw [ho1 (by omega)]; have := HSR.out (j + 1) (by omega); rw [show 0 + (j + 1) = 1 + j from by omega] at this; exact this)
  refine (rnums_any Wb o1 m m (fun j => strF P (j + 1)) w1 (by omega) hWb HSR1.out).mono ?_
  rintro e w2 (⟨hall, rfl, hMI⟩ | ⟨hbad, rfl, hb2⟩)
  rotate_left
  · have HB2 := hid (HB1.out.trans (hb2.mono (Nat.le_trans HP1.out.ge (Nat.le_of_lt (Nat.lt_of_lt_of_le HP1.out.lt HP1.out.le)))))
    have HBAD := hid hbad
    clear hb2 hbad HSR1 HSR c0 hP0
    go_wp2_with fail
    go_ret
    refine ⟨HB2.out, .inl ⟨?_, rfl⟩⟩
    obtain ⟨j, hj, hn⟩ := HBAD.out
    rw [line_bad HPC.out ⟨j, by rw [HPN.out]; omega, hn⟩]
    rfl
  · have HALL : Hid (allN P) := hid fun j hj => hall j (by rw [HPN.out] at hj; omega)
    have HB2 := hid (HB1.out.trans (hMI.below.mono (Nat.le_trans HP1.out.ge (Nat.le_of_lt (Nat.lt_of_lt_of_le HP1.out.lt HP1.out.le)))))
    have HP2 := hid (HP1.out.kept hMI.below)
    have c0' : w2.cell? ⟨Wb, 0, none⟩ = some (.string P0) := (hMI.below.cell hWb).trans c0
    obtain ⟨V, hV⟩ : ∃ V, w1.heap.size = V := ⟨_, rfl⟩
    rw [hV] at hMI ⊢
    have HMI := hid hMI
    have HV1 : Hid (base ≤ V) := hid (by rw [← hV]; exact HP1.out.le)
    have HWb : Hid (base ≤ Wb ∧ Wb < w2.heap.size) := hid ⟨HWL.out, Nat.lt_of_lt_of_le hWb hMI.below.size⟩
    clear hall HSR1 HSR c0 hMI hV HP1 HB1 hWb
    obtain ⟨va, vc, hve⟩ : ∃ va vc, v = .slice va ps.length vc := ⟨_, _, HP2.out.own.row.1⟩
    obtain ⟨pk, hpk⟩ : ∃ x, ps.length = x := ⟨_, rfl⟩
    rw [hpk] at hve hps
    subst hve
    have HPK := hid hpk
    clear hpk
    obtain ⟨b0, b1⟩ : _ ∧ _ := ⟨HP2.out.box0, HP2.out.box1⟩
    have f0 := HP2.out.fr0
    have f1 := HP2.out.fr1
    have HP0 := hid hP0
    clear hP0
    by_cases hwi : P0.data.toList = wInputs
    · have t1 : (P0.toList == [105, 110, 112, 117, 116, 115]) = true := by rw [word_eq]; exact decide_eq_true hwi
      have hn1 : Hid (∀ h : ¬ (i = 0 ∧ m = 1), (lineQ line.data.toList).bind (stepQ i c) = none) := hid fun h => step_inputs_none HPC.out HALL.out (by rw [HP0.out]; exact hwi) (by rw [HPN.out]; omega)
      by_cases hi0 : i = 0
      · have e1 : (((i : Int) + 1) != 1) = false := by rw [hi0]; rfl
        by_cases hm1 : m = 1
        · subst hm1
          have e2 : (((1 : Nat) : Int) != 1) = false := rfl
          have cn := HMI.out.row 0 (by omega)
          obtain ⟨x, hx⟩ : ∃ x, numsB (fun j => strF P (j + 1)) 0 = x := ⟨_, rfl⟩
          rw [hx] at cn
          have HN : Hid ((lineQ line.data.toList).bind (stepQ i c) = some ⟨x, c.layers⟩) := hid (by rw [step_inputs HPC.out HALL.out (by rw [HP0.out]; exact hwi) (by rw [HPN.out]), if_pos hi0, hx])
          clear hx
          go_wp2_with fail
          go_ret
          exact ⟨HB2.out.setCell HP2.out.ge _, .inr ⟨_, _, _, HN.out, rfl, HP2.out.inputs x⟩⟩
        · have e2 : ((m : Int) != 1) = true := by simp; omega
          go_wp2_with fail
          go_ret
          exact ⟨HB2.out, .inl ⟨hn1.out (fun h => hm1 h.2), rfl⟩⟩
      · have e1 : (((i : Int) + 1) != 1) = true := by simp; omega
        go_wp2_with fail
        go_ret
        exact ⟨HB2.out, .inl ⟨hn1.out (fun h => hi0 h.1), rfl⟩⟩
    · have t1 : (P0.toList == [105, 110, 112, 117, 116, 115]) = false := by rw [word_eq]; exact decide_eq_false hwi
      by_cases hwl : P0.data.toList = wLayer
      · have t2 : (P0.toList == [108, 97, 121, 101, 114]) = true := by rw [word_eq]; exact decide_eq_true hwl
        have hn1 : Hid (∀ h : ¬ (i ≠ 0 ∧ m = 1), (lineQ line.data.toList).bind (stepQ i c) = none) := hid fun h => step_layer_none HPC.out HALL.out (by rw [HP0.out]; exact hwl) (by rw [HPN.out]; omega)
        by_cases hi0 : i = 0
        · have e1 : (((i : Int) + 1) == 1) = true := by rw [hi0]; rfl
          go_wp2_with fail
          go_ret
          exact ⟨HB2.out, .inl ⟨hn1.out (fun h => h.1 hi0), rfl⟩⟩
        · have e1 : (((i : Int) + 1) == 1) = false := beq_eq_false_iff_ne.2 (by omega)
          by_cases hm1 : m = 1
          · subst hm1
            have e2 : (((1 : Nat) : Int) != 1) = false := rfl
            have cn := HMI.out.row 0 (by omega)
            obtain ⟨x, hx⟩ : ∃ x, numsB (fun j => strF P (j + 1)) 0 = x := ⟨_, rfl⟩
            rw [hx] at cn
            have HN : Hid ((lineQ line.data.toList).bind (stepQ i c) = some ⟨c.log, c.layers ++ [⟨x, []⟩]⟩) := hid (by rw [step_layer HPC.out HALL.out (by rw [HP0.out]; exact hwl) (by rw [HPN.out]), if_neg hi0, hx])
            clear hx
            obtain ⟨iy, zy, hy1, hy2, hy3, hy4, hy5⟩ := infoY_parts
            have HY := hid (And.intro hy1 (And.intro hy2 (And.intro hy3 (And.intro hy4 hy5))))
            clear hy1 hy2 hy3 hy4 hy5
            have hle := HP2.out.le
            have HO : Hid (w2.ownsRow base 126 2 (.slice va pk vc) pk (lcells ps)) := hid (by have := HP2.out.own.own; rw [HPK.out] at this; exact this)
            go_wp2_with fail
            have hal := (Below.refl w2.heap.size w2).alloc (Nat.le_refl _) (.cells #[.int .i64 x, .slice none 0 0] 126)
            have HPA := hid (HP2.out.kept hal)
            have HBA := hid (HB2.out.trans (hal.mono (Nat.le_trans HP2.out.ge (Nat.le_of_lt (Nat.lt_of_lt_of_le HP2.out.lt HP2.out.le)))))
            have HLO : Hid (∀ k, (Value.slice va pk vc).ownBlock = some k → base ≤ k) := hid fun k hk => (HO.out.lt k hk).1
            clear hal
            have cbl : cb < w2.heap.size := Nat.lt_of_lt_of_le HP2.out.lt HP2.out.le
            have b1' : ∀ o, (w2.alloc o).cell? ⟨cb, 1, none⟩ = some (.slice va pk vc) := fun o => by rw [World.cell?_alloc_old _ _ _ (Nat.ne_of_lt cbl)]; exact b1
            go_region_law (refine step_append_lies _ rfl (.tmp 52) (.tmp 57) 86 rfl base 126 iy zy 2 32 Tryz.underlying86 HY.out.1 HY.out.2.1 HY.out.2.2.1 HY.out.2.2.2.1 HY.out.2.2.2.2 (by decide) (.slice va pk vc) pk (lcells ps) (by simp [Act.eval]) (World.ownsRow.alloc HO.out _) ⟨w2.heap.size, 0, none⟩ 1 1 [.int .i64 x, .slice none 0 0] (by simp [Act.eval]) rfl (news_all w2 [.int .i64 x, .slice none 0 0] _) (one_layer x) (by omega) (by unfold maxLen; omega) (by omega) (by simp; omega) (w2.heap.size + 1) (by simp) ?_; intro g6 c6 w6 hown6 hgrow6 hat6 hlt6; have hl6 := grown_low (p := 1) (grown_dry hgrow6) HLO.out HPA.out.lt HPA.out.le; have q1 : w6.cell? ⟨cb, 1, none⟩ = some (.slice va pk vc) := hl6.1.trans HPA.out.box1; have q2 : w6.frozen? ⟨cb, 1, none⟩ = false := hl6.2.trans HPA.out.fr1; clear hl6)
            all_goals (go_wp2_with fail)
            all_goals go_ret
            all_goals (clear b1')
            all_goals
              have hown7 : w6.ownsRow base 126 2 (.slice (some ⟨g6, 0, none⟩) (ps.length + 1) c6) (ps.length + 1) (lcells ps ++ [.int .i64 x, .slice none 0 0]) := by rw [HPK.out]; exact hown6
              have hP7 := HPA.out.layer hown7 (grown_dry hgrow6) (by rcases hat6 with e | e; exact .inl e; exact .inr (by rw [e]; simp))
              rw [HPK.out] at hP7
              exact ⟨(HBA.out.grown (grown_dry hgrow6) (by simp; have := HP2.out.ge; have := HP2.out.lt; omega) (fun k hk => Nat.le_trans (Nat.le_trans HP2.out.ge (Nat.le_of_lt HP2.out.lt)) (HLO.out k hk))).setCell HP2.out.ge _, .inr ⟨_, _, _, HN.out, rfl, hP7⟩⟩
          · have e2 : ((m : Int) != 1) = true := by simp; omega
            go_wp2_with fail
            go_ret
            exact ⟨HB2.out, .inl ⟨hn1.out (fun h => hm1 h.2), rfl⟩⟩
      · have t2 : (P0.toList == [108, 97, 121, 101, 114]) = false := by rw [word_eq]; exact decide_eq_false hwl
        by_cases hwg : ∃ mb : Bool, P0.data.toList = if mb then wMul else wAdd
        · obtain ⟨mb, hwg⟩ := hwg
          have t3 : (P0.toList == [97, 100, 100]) = !mb := by rw [word_eq, hwg]; cases mb <;> decide
          have t4 : (P0.toList == [109, 117, 108]) = mb := by rw [word_eq, hwg]; cases mb <;> decide
          have hn1 : Hid (∀ h : ¬ (c.layers ≠ [] ∧ m = 2), (lineQ line.data.toList).bind (stepQ i c) = none) := hid fun h => step_gate_none HPC.out HALL.out mb (by rw [HP0.out]; exact hwg) (fun h2 => h ⟨h2.1, by have := h2.2; rw [HPN.out] at this; omega⟩)
          have hpl : Hid (c.layers.length = pk) := hid (by rw [HP2.out.lay, List.length_map, HPK.out])
          by_cases hp0 : pk = 0
          · subst hp0
            have hle : c.layers = [] := List.eq_nil_of_length_eq_zero hpl.out
            have HNO := hid (hn1.out (fun h => h.1 hle))
            clear hle
            cases mb with
            | true =>
              go_wp2_with fail
              go_ret
              exact ⟨HB2.out, .inl ⟨HNO.out, rfl⟩⟩
            | false =>
              go_wp2_with fail
              go_ret
              exact ⟨HB2.out, .inl ⟨HNO.out, rfl⟩⟩
          · have e1 : ((pk : Int) == 0) = false := beq_eq_false_iff_ne.2 (by omega)
            by_cases hm2 : m = 2
            · subst hm2
              have e2 : (((2 : Nat) : Int) != 2) = false := rfl
              have cn := HMI.out.row 0 (by omega)
              have cm := HMI.out.row 1 (by omega)
              obtain ⟨x, hx⟩ : ∃ x, numsB (fun j => strF P (j + 1)) 0 = x := ⟨_, rfl⟩
              obtain ⟨y, hy⟩ : ∃ x, numsB (fun j => strF P (j + 1)) 1 = x := ⟨_, rfl⟩
              rw [hx] at cn
              rw [hy] at cm
              have hne : c.layers ≠ [] := fun e => by have := hpl.out; rw [e] at this; simp at this; omega
              have HN : Hid ((lineQ line.data.toList).bind (stepQ i c) = some ⟨c.log, gateTo c.layers ⟨mb, x, y⟩⟩) := hid (by rw [step_gate HPC.out HALL.out mb (by rw [HP0.out]; exact hwg) (by rw [HPN.out]), if_neg hne, hx, hy])
              clear hx hy hne hn1
              obtain ⟨qs, lg, hps2⟩ : ∃ qs p, ps = qs ++ [p] := ⟨_, _, (List.dropLast_concat_getLast (l := ps) (fun e => by have := HPK.out; rw [e] at this; simp at this; omega)).symm⟩
              obtain ⟨l, gv⟩ := lg
              obtain ⟨vb, vc', hvf, hvb1, hvb2⟩ := HP2.out.own.own.form (by rw [HPK.out]; omega)
              rw [HPK.out] at hvf
              injection hvf with hva _ hvc
              subst hva
              subst hvc
              obtain ⟨q, hq⟩ : ∃ q, qs.length = q := ⟨_, rfl⟩
              obtain rfl : pk = q + 1 := by have := HPK.out; rw [hps2, List.length_append, hq] at this; simpa using this.symm
              have hgo := HP2.out.own.gates (l, gv) (by rw [hps2]; simp)
              obtain ⟨hgv, _, hgc, _⟩ := GRow.of_own hgo
              obtain ⟨gl, hgl⟩ : ∃ n, l.gates.length = n := ⟨_, rfl⟩
              have gl5 : gl ≤ 5000 := by rw [← hgl]; exact hgs (l, gv) (by rw [hps2]; simp)
              have hla := lcells_at ps q (l, gv) (by rw [hps2, ← hq]; simp)
              have ho := HP2.out.own.own
              rw [HPK.out] at ho
              have cg : w2.cell? ⟨vb, q * 2 + 1, none⟩ = some gv := by rw [Nat.mul_comm q 2, ho.cellAt _ (by omega)]; exact hla.2
              have fg : w2.frozen? ⟨vb, q * 2 + 1, none⟩ = false := ho.frozenAt _
              have hap : gv.ownBlock ≠ some vb := fun e => HP2.out.own.apart (l, gv) (by rw [hps2]; simp) vb e rfl
              rw [hgl] at hgo hgv
              have HGO := hid hgo
              have HGL := hid hgl
              have HPS := hid hps2
              have HQ := hid hq
              have HAP := hid hap
              obtain ⟨gva, hgva⟩ : ∃ a, adrV gv = a := ⟨_, rfl⟩
              obtain ⟨gvc, hgvc⟩ : ∃ a, capV gv = a := ⟨_, rfl⟩
              rw [hgva, hgvc] at hgv
              subst hgv
              clear hgo hgl hps2 hq hap hgva hgvc hgc hla ho hgs
              obtain ⟨ig, zg, hy1, hy2, hy3, hy4, hy5⟩ := infoG_parts
              have HY := hid (And.intro hy1 (And.intro hy2 (And.intro hy3 (And.intro hy4 hy5))))
              clear hy1 hy2 hy3 hy4 hy5
              have q0 : (0 : Int) ≤ (q : Int) := by omega
              have q1 : (q : Int) < (q : Int) + 1 := by omega
              have wq : IntKind.i64.wrap (q : Int) = (q : Int) := IntWalk.i64_in _ (by omega)
              cases mb with
              | true =>
                go_wp2_with fail
                go_quiet (fail)
                go_wp2_with fail
                have hbq : Below w2.heap.size w2 (w2.drewN nq) := ⟨rfl, rfl, rfl, Nat.le_refl _, fun _ _ => rfl⟩
                have HP3 := hid (HP2.out.kept hbq)
                have HB3 := hid (HB2.out.trans (hbq.mono (Nat.le_trans HP2.out.ge (Nat.le_of_lt (Nat.lt_of_lt_of_le HP2.out.lt HP2.out.le)))))
                have HGO3 := hid (owns_kept HGO.out hbq)
                have cg3 := (hbq.cell hvb2).trans cg
                have fg3 := (hbq.frozen hvb2).trans fg
                have c03 := (hbq.cell HWb.out.2).trans c0'
                have cn3 := (hbq.cell HMI.out.lt).trans cn
                have cm3 := (hbq.cell HMI.out.lt).trans cm
                have vb3 : vb < (w2.drewN nq).heap.size := hvb2
                clear hbq HGO cg fg c0' cn cm b0 b1 f0 f1 HP2 HB2
                generalize w2.drewN nq = w3 at HP3 HB3 HGO3 cg3 fg3 c03 cn3 cm3 vb3 ⊢
                have hle := HP3.out.le
                have hal := (Below.refl w3.heap.size w3).alloc (Nat.le_refl _) (.cells #[.bool true, .int .i64 x, .int .i64 y] 128)
                have HPA := hid (HP3.out.kept hal)
                have HBA := hid (HB3.out.trans (hal.mono (Nat.le_trans HP3.out.ge (Nat.le_of_lt (Nat.lt_of_lt_of_le HP3.out.lt HP3.out.le)))))
                have HLO : Hid (∀ k, (Value.slice gva gl gvc).ownBlock = some k → base ≤ k) := hid fun k hk => (HGO3.out.lt k hk).1
                clear hal
                have cg' : ∀ o, (w3.alloc o).cell? ⟨vb, q * 2 + 1, none⟩ = some (.slice gva gl gvc) := fun o => by rw [World.cell?_alloc_old _ _ _ (Nat.ne_of_lt vb3)]; exact cg3
                have fg' : ∀ o, (w3.alloc o).frozen? ⟨vb, q * 2 + 1, none⟩ = false := fun o => by rw [World.frozen?_alloc_old _ _ _ (Nat.ne_of_lt vb3)]; exact fg3
                go_region_law (refine step_append_lies _ rfl (.tmp 90) (.tmp 102) 124 rfl base 128 ig zg 3 24 Tryz.underlying124 HY.out.1 HY.out.2.1 HY.out.2.2.1 HY.out.2.2.2.1 HY.out.2.2.2.2 (by decide) (.slice gva gl gvc) gl (gcells l.gates) (by simp [Act.eval]) (World.ownsRow.alloc HGO3.out _) ⟨w3.heap.size, 0, none⟩ 1 1 [.bool true, .int .i64 x, .int .i64 y] (by simp [Act.eval]) rfl (news_all w3 [.bool true, .int .i64 x, .int .i64 y] _) (one_gate true x y) (by omega) (by unfold maxLen; omega) (by omega) (by simp; omega) (w3.heap.size + 1) (by simp) ?_; intro g6 c6 w6 hown6 hgrow6 hat6 hlt6; have he6 : w6.heap[vb]? = (w3.alloc (.cells #[.bool true, .int .i64 x, .int .i64 y] 128)).heap[vb]? := (grown_dry hgrow6).block vb (by simp; omega) (fun e => HAP.out e.symm); have p1 : w6.cell? ⟨vb, q * 2 + 1, none⟩ = some (.slice gva gl gvc) := (World.cell?_of_block he6).trans (cg' _); have p2 : w6.frozen? ⟨vb, q * 2 + 1, none⟩ = false := (World.frozen?_of_block he6).trans (fg' _); clear he6)
                all_goals (go_wp2_with fail)
                all_goals go_ret
                all_goals (clear cg' fg')
                all_goals
                  have hown7 : w6.ownsRow base 128 3 (.slice (some ⟨g6, 0, none⟩) (l.gates.length + 1) c6) (l.gates.length + 1) (gcells l.gates ++ [.bool true, .int .i64 x, .int .i64 y]) := by rw [HGL.out]; exact hown6
                  have hPQ := HPA.out
                  rw [HPS.out] at hPQ
                  rw [← HQ.out] at hPQ
                  have hP7 := PS.gate (x := ⟨true, x, y⟩) hPQ hown7 (grown_dry hgrow6) (by rcases hat6 with e | e; exact .inl e; exact .inr (by rw [e]; simp))
                  rw [HQ.out, HGL.out, Nat.mul_comm 2 q] at hP7
                  exact ⟨(HBA.out.grown (grown_dry hgrow6) (by simp; have := HP3.out.ge; have := HP3.out.lt; omega) (fun k hk => Nat.le_trans (Nat.le_trans HP3.out.ge (Nat.le_of_lt HP3.out.lt)) (HLO.out k hk))).setCell (Nat.le_trans (Nat.le_trans HP3.out.ge (Nat.le_of_lt HP3.out.lt)) hvb1) _, .inr ⟨_, _, _, HN.out, rfl, hP7⟩⟩
              | false =>
                go_wp2_with fail
                go_quiet (fail)
                go_wp2_with fail
                have hbq : Below w2.heap.size w2 (w2.drewN nq) := ⟨rfl, rfl, rfl, Nat.le_refl _, fun _ _ => rfl⟩
                have HP3 := hid (HP2.out.kept hbq)
                have HB3 := hid (HB2.out.trans (hbq.mono (Nat.le_trans HP2.out.ge (Nat.le_of_lt (Nat.lt_of_lt_of_le HP2.out.lt HP2.out.le)))))
                have HGO3 := hid (owns_kept HGO.out hbq)
                have cg3 := (hbq.cell hvb2).trans cg
                have fg3 := (hbq.frozen hvb2).trans fg
                have c03 := (hbq.cell HWb.out.2).trans c0'
                have cn3 := (hbq.cell HMI.out.lt).trans cn
                have cm3 := (hbq.cell HMI.out.lt).trans cm
                have vb3 : vb < (w2.drewN nq).heap.size := hvb2
                clear hbq HGO cg fg c0' cn cm b0 b1 f0 f1 HP2 HB2
                generalize w2.drewN nq = w3 at HP3 HB3 HGO3 cg3 fg3 c03 cn3 cm3 vb3 ⊢
                have hle := HP3.out.le
                have hal := (Below.refl w3.heap.size w3).alloc (Nat.le_refl _) (.cells #[.bool false, .int .i64 x, .int .i64 y] 128)
                have HPA := hid (HP3.out.kept hal)
                have HBA := hid (HB3.out.trans (hal.mono (Nat.le_trans HP3.out.ge (Nat.le_of_lt (Nat.lt_of_lt_of_le HP3.out.lt HP3.out.le)))))
                have HLO : Hid (∀ k, (Value.slice gva gl gvc).ownBlock = some k → base ≤ k) := hid fun k hk => (HGO3.out.lt k hk).1
                clear hal
                have cg' : ∀ o, (w3.alloc o).cell? ⟨vb, q * 2 + 1, none⟩ = some (.slice gva gl gvc) := fun o => by rw [World.cell?_alloc_old _ _ _ (Nat.ne_of_lt vb3)]; exact cg3
                have fg' : ∀ o, (w3.alloc o).frozen? ⟨vb, q * 2 + 1, none⟩ = false := fun o => by rw [World.frozen?_alloc_old _ _ _ (Nat.ne_of_lt vb3)]; exact fg3
                go_region_law (refine step_append_lies _ rfl (.tmp 90) (.tmp 102) 124 rfl base 128 ig zg 3 24 Tryz.underlying124 HY.out.1 HY.out.2.1 HY.out.2.2.1 HY.out.2.2.2.1 HY.out.2.2.2.2 (by decide) (.slice gva gl gvc) gl (gcells l.gates) (by simp [Act.eval]) (World.ownsRow.alloc HGO3.out _) ⟨w3.heap.size, 0, none⟩ 1 1 [.bool false, .int .i64 x, .int .i64 y] (by simp [Act.eval]) rfl (news_all w3 [.bool false, .int .i64 x, .int .i64 y] _) (one_gate false x y) (by omega) (by unfold maxLen; omega) (by omega) (by simp; omega) (w3.heap.size + 1) (by simp) ?_; intro g6 c6 w6 hown6 hgrow6 hat6 hlt6; have he6 : w6.heap[vb]? = (w3.alloc (.cells #[.bool false, .int .i64 x, .int .i64 y] 128)).heap[vb]? := (grown_dry hgrow6).block vb (by simp; omega) (fun e => HAP.out e.symm); have p1 : w6.cell? ⟨vb, q * 2 + 1, none⟩ = some (.slice gva gl gvc) := (World.cell?_of_block he6).trans (cg' _); have p2 : w6.frozen? ⟨vb, q * 2 + 1, none⟩ = false := (World.frozen?_of_block he6).trans (fg' _); clear he6)
                all_goals (go_wp2_with fail)
                all_goals go_ret
                all_goals (clear cg' fg')
                all_goals
                  have hown7 : w6.ownsRow base 128 3 (.slice (some ⟨g6, 0, none⟩) (l.gates.length + 1) c6) (l.gates.length + 1) (gcells l.gates ++ [.bool false, .int .i64 x, .int .i64 y]) := by rw [HGL.out]; exact hown6
                  have hPQ := HPA.out
                  rw [HPS.out] at hPQ
                  rw [← HQ.out] at hPQ
                  have hP7 := PS.gate (x := ⟨false, x, y⟩) hPQ hown7 (grown_dry hgrow6) (by rcases hat6 with e | e; exact .inl e; exact .inr (by rw [e]; simp))
                  rw [HQ.out, HGL.out, Nat.mul_comm 2 q] at hP7
                  exact ⟨(HBA.out.grown (grown_dry hgrow6) (by simp; have := HP3.out.ge; have := HP3.out.lt; omega) (fun k hk => Nat.le_trans (Nat.le_trans HP3.out.ge (Nat.le_of_lt HP3.out.lt)) (HLO.out k hk))).setCell (Nat.le_trans (Nat.le_trans HP3.out.ge (Nat.le_of_lt HP3.out.lt)) hvb1) _, .inr ⟨_, _, _, HN.out, rfl, hP7⟩⟩
            · have e2 : ((m : Int) != 2) = true := by simp; omega
              have HNO := hid (hn1.out (fun h => hm2 h.2))
              cases mb with
              | true =>
                go_wp2_with fail
                go_ret
                exact ⟨HB2.out, .inl ⟨HNO.out, rfl⟩⟩
              | false =>
                go_wp2_with fail
                go_ret
                exact ⟨HB2.out, .inl ⟨HNO.out, rfl⟩⟩
        · have h3 : P0.data.toList ≠ wAdd := fun e => hwg ⟨false, e⟩
          have h4 : P0.data.toList ≠ wMul := fun e => hwg ⟨true, e⟩
          have t3 : (P0.toList == [97, 100, 100]) = false := by rw [word_eq]; exact decide_eq_false h3
          have t4 : (P0.toList == [109, 117, 108]) = false := by rw [word_eq]; exact decide_eq_false h4
          have HNO : Hid ((lineQ line.data.toList).bind (stepQ i c) = none) := hid (step_word_none HPC.out HALL.out (by rw [HP0.out]; exact hwi) (by rw [HP0.out]; exact hwl) (by rw [HP0.out]; exact h3) (by rw [HP0.out]; exact h4))
          go_wp2_with fail
          go_ret
          exact ⟨HB2.out, .inl ⟨HNO.out, rfl⟩⟩

end Go.Proofs.YtiohbjnnfkadnaaGreatDoor

/-
  A contract of package circuit's readLines, for every text; what it makes is new.
-/
namespace Go.Proofs.YtiohbjnnfkadnaaGreatDoor
open Go.RowKit Go.PlainAid
set_option linter.unusedVariables false
attribute [local go_sem ↓] Go.wp_at_zero Go.wp_at_succ

/-- No more layers, and no more gates in one of them, than k. -/
def CQ.upTo (c : CQ) (k : Nat) : Prop := c.layers.length ≤ k ∧ ∀ l ∈ c.layers, l.gates.length ≤ k
theorem gateTo_upTo (ls : List LQ) (g : GQ) (k : Nat) (h : ∀ l ∈ ls, l.gates.length ≤ k) : (gateTo ls g).length = ls.length ∧ ∀ l ∈ gateTo ls g, l.gates.length ≤ k + 1 := by
  rcases List.eq_nil_or_concat ls with rfl | ⟨p, l, rfl⟩
  · exact ⟨rfl, by simp [gateTo]⟩
  · rw [List.concat_eq_append] at h ⊢
    rw [gateTo_snoc]
    refine ⟨by simp, fun x hx => ?_⟩
    rcases List.mem_append.1 hx with hx | hx
    · have := h x (List.mem_append_left _ hx); omega
    · simp at hx
      subst hx
      have := h l (by simp)
      simp
      omega
theorem step_upTo {i k : Nat} {c c' : CQ} {x : Ln} (h : c.upTo k) (hs : stepQ i c x = some c') : c'.upTo (k + 1) := by
  rcases x with n | n | g
  · simp only [stepQ] at hs
    split at hs
    · injection hs with hs
      subst hs
      exact ⟨Nat.le_succ_of_le h.1, fun l hl => Nat.le_succ_of_le (h.2 l hl)⟩
    · cases hs
  · simp only [stepQ] at hs
    split at hs
    · cases hs
    · injection hs with hs
      subst hs
      refine ⟨by simp; exact h.1, fun l hl => ?_⟩
      rcases List.mem_append.1 hl with hl | hl
      · exact Nat.le_succ_of_le (h.2 l hl)
      · simp at hl; subst hl; simp
  · simp only [stepQ] at hs
    split at hs
    · cases hs
    · injection hs with hs
      subst hs
      have := gateTo_upTo c.layers g k h.2
      exact ⟨by show (gateTo c.layers g).length ≤ _; rw [this.1]; exact Nat.le_succ_of_le h.1, this.2⟩
theorem line_upTo {i k : Nat} {c c' : CQ} {s : List UInt8} (h : c.upTo k) (hs : (lineQ s).bind (stepQ i c) = some c') : c'.upTo (k + 1) := by
  cases e : lineQ s with
  | none => rw [e] at hs; cases hs
  | some x => rw [e] at hs; exact step_upTo h hs
theorem PS.start (w : World) (t : TypeId) : PS w.heap.size (w.alloc (.cells #[.int .i64 0, .slice none 0 0] t)) w.heap.size (w.heap.size + 1) ⟨0, []⟩ (.slice none 0 0) [] :=
  ⟨by rw [World.cell?_alloc_new]; rfl, by rw [World.cell?_alloc_new]; rfl, by rw [World.frozen?_alloc_new], by rw [World.frozen?_alloc_new], OwnC.nil _ _, rfl, Nat.lt_succ_self _, by simp, Nat.le_refl _⟩
theorem PS.upTo {B0 : Nat} {w : World} {cb base : Nat} {c : CQ} {v : Value} {ps : List (LQ × Value)} {k : Nat} (h : PS B0 w cb base c v ps) (hu : c.upTo k) : ps.length ≤ k ∧ ∀ p ∈ ps, p.1.gates.length ≤ k := by
  have hl := h.lay
  refine ⟨by have := hu.1; rw [hl, List.length_map] at this; exact this, fun p hp => hu.2 p.1 (by rw [hl]; exact List.mem_map_of_mem hp)⟩
/-- A text that is cut, by the library's words. -/
theorem cut_none {s : ByteArray} (h : cutL 10 s.data.toList = none) : Lib.cut s.data.toList (⟨#[10]⟩ : ByteArray).data.toList = (s.data.toList, [], false) := by
  have := cut_cutL 10 s.data.toList
  rw [h] at this
  exact this
theorem cut_some {s p r : ByteArray} (h : cutL 10 s.data.toList = some (p.data.toList, r.data.toList)) : Lib.cut s.data.toList (⟨#[10]⟩ : ByteArray).data.toList = (p.data.toList, r.data.toList, true) := by
  have := cut_cutL 10 s.data.toList
  rw [h] at this
  exact this

/-- The cells of a circuit that a call answers: nothing is written there yet. -/
structure RC (w : World) (b : Nat) : Prop where
  c0 : w.cell? ⟨b, 0, none⟩ = some (.int .i64 0)
  c1 : w.cell? ⟨b, 1, none⟩ = some (.slice none 0 0)
  f0 : w.frozen? ⟨b, 0, none⟩ = false
  f1 : w.frozen? ⟨b, 1, none⟩ = false
  lt : b < w.heap.size
theorem RC.start (w : World) (t : TypeId) : RC (w.alloc (.cells #[.int .i64 0, .slice none 0 0] t)) w.heap.size :=
  ⟨by rw [World.cell?_alloc_new]; rfl, by rw [World.cell?_alloc_new]; rfl, by rw [World.frozen?_alloc_new], by rw [World.frozen?_alloc_new], by simp⟩
theorem RC.kept {w w' : World} {b n : Nat} (h : RC w b) (hb : Below n w w') (hn : b < n) : RC w' b :=
  ⟨(hb.cell hn).trans h.c0, (hb.cell hn).trans h.c1, (hb.frozen hn).trans h.f0, (hb.frozen hn).trans h.f1, Nat.lt_of_lt_of_le h.lt hb.size⟩
theorem owns_lower {w : World} {base b' : Nat} {e : TypeId} {size : Nat} {v : Value} {n : Nat} {xs : List Value} (h : w.ownsRow base e size v n xs) (hb : b' ≤ base) : w.ownsRow b' e size v n xs := by
  refine ⟨h.1, ?_⟩
  rcases h.2 with h2 | ⟨g, cap, cur, hv, hg, r⟩
  · exact .inl h2
  · exact .inr ⟨g, cap, cur, hv, Nat.le_trans hb hg, r⟩
theorem OwnC.lower {w : World} {base b' : Nat} {v : Value} {ps : List (LQ × Value)} (h : OwnC w base v ps) (hb : b' ≤ base) : OwnC w b' v ps :=
  ⟨owns_lower h.own hb, fun p hp => owns_lower (h.gates p hp) hb, h.apart, h.each⟩
theorem load_circ {w : World} {b : Nat} {x0 x1 : Value} (c0 : w.cell? ⟨b, 0, none⟩ = some x0) (c1 : w.cell? ⟨b, 1, none⟩ = some x1) : (loadVar 88 ⟨b, 0, none⟩).run Tryz.prog w = .ok (.agg #[x0, x1]) w := by
  go_simp
theorem results_circ {fn : Func} {p u : Tmp} (h : fn.results = #[.cell p 88, .tmp u]) {tmps : Array Value} {w : World} {b : Nat} {x0 x1 : Value} (hp : tmps.getD p undef = .pointer (some ⟨b, 0, none⟩)) (c0 : w.cell? ⟨b, 0, none⟩ = some x0) (c1 : w.cell? ⟨b, 1, none⟩ = some x1) :
    (results fn tmps).run Tryz.prog w = .ok (.tuple #[.agg #[x0, x1], tmps.getD u undef]) w := by
  rw [results_cell_tmp h, hp]
  simp [asAddr, Result.andThen, load_circ c0 c1]
theorem set_two {w : World} {b : Nat} {x0 x1 y0 y1 : Value} (c0 : w.cell? ⟨b, 0, none⟩ = some x0) (c1 : w.cell? ⟨b, 1, none⟩ = some x1) : ((w.setCell ⟨b, 0, none⟩ y0).setCell ⟨b, 1, none⟩ y1).cell? ⟨b, 0, none⟩ = some y0 ∧ ((w.setCell ⟨b, 0, none⟩ y0).setCell ⟨b, 1, none⟩ y1).cell? ⟨b, 1, none⟩ = some y1 := by
  have n01 : (⟨b, 0, none⟩ : Addr) ≠ ⟨b, 1, none⟩ := by intro e; simp at e
  refine ⟨?_, ?_⟩
  · rw [World.cell?_setCell_other _ _ _ _ n01.symm]
    exact World.cell?_setCell_same _ _ _ c0
  · have h : (w.setCell ⟨b, 0, none⟩ y0).cell? ⟨b, 1, none⟩ = some x1 := by rw [World.cell?_setCell_other _ _ _ _ n01]; exact c1
    exact World.cell?_setCell_same _ _ _ h
theorem list_size (s : ByteArray) : s.data.toList.length = s.size := by simp

set_option maxHeartbeats 2000000 in
set_option maxRecDepth 100000 in
theorem rlines_any (s : ByteArray) (M : Int) (w : World) (hs : s.size ≤ 4096) (hM : w.cell? ⟨0, 0, none⟩ = some (.int .i64 M)) :
    Calls Tryz.prog 149 #[.string s] w fun e w' => Below w.heap.size w w' ∧
      ((∃ n : Nat, textQ s.data.toList = .error n ∧ 1 ≤ n ∧ n ≤ 4097 ∧ e = .returned (.tuple #[.agg #[.int .i64 0, .slice none 0 0], .int .i64 (n : Int)])) ∨
       (∃ c v ps, textQ s.data.toList = .ok c ∧ c.upTo 4096 ∧ e = .returned (.tuple #[.agg #[.int .i64 c.log, v], .int .i64 0]) ∧ OwnC w' w.heap.size v ps ∧ c.layers = ps.map (·.1))) := by
  have HML := hid (World.block_lt_of_cell? w _ hM)
  have HM := hid hM
  clear hM
  go_enter Tryz.func149, Tryz.ntmps149
  go_wp2_with fail
  have hA := (Below.refl w.heap.size w).alloc (Nat.le_refl _) (.cells #[.int .i64 0, .slice none 0 0] 88)
  have hR := RC.start w 88
  have hP := PS.start (w.alloc (.cells #[.int .i64 0, .slice none 0 0] 88)) 88
  have hA2 := (Below.refl _ (w.alloc (.cells #[.int .i64 0, .slice none 0 0] 88))).alloc (Nat.le_refl _) (.cells #[.int .i64 0, .slice none 0 0] 88)
  have HB0 := hid (hA.trans (hA2.mono hA.size))
  have HR0 := hid (hR.kept hA2 hR.lt)
  rw [show (w.alloc (.cells #[.int .i64 0, .slice none 0 0] 88)).heap.size = w.heap.size + 1 from by simp] at hP
  have HP0 := hid hP
  clear hA hA2 hR hP
  obtain ⟨B, hB⟩ : ∃ B, w.heap.size = B := ⟨_, rfl⟩
  rw [hB] at HB0 HR0 HP0 HML ⊢
  have HBE := hid hB
  clear hB
  generalize (w.alloc (.cells #[.int .i64 0, .slice none 0 0] 88)).alloc (.cells #[.int .i64 0, .slice none 0 0] 88) = W0 at HB0 HR0 HP0 ⊢
  go_loopg [0, 5] s.size (fun q a i wr => ∃ (t : Nat) (r : ByteArray) (c : CQ) (v : Value) (ps : List (LQ × Value)), q = r.size ∧ a = .string r ∧ i = .int .i64 ((t : Int) + 1) ∧ t + r.size ≤ s.size ∧ Hid (PS (B + 1) wr (B + 1) (B + 2) c v ps) ∧ Hid (textFrom t c r.data.toList = textQ s.data.toList) ∧ Hid (c.upTo t) ∧ Hid (RC wr B) ∧ Hid (Below B w wr))
  case atStart => exact ⟨0, s, _, _, _, rfl, rfl, by simp, by omega, HP0, hid (textFrom_all _), hid ⟨Nat.le_refl 0, by simp⟩, HR0, HB0⟩
  case round =>
    clear HP0 HB0 HR0
    obtain ⟨t, r, c, v, ps, rfl, rfl, rfl, htr, HP, HT, HU, HR, HB⟩ := hrel
    have r0 := HR.out.c0
    have r1 := HR.out.c1
    have f0 := HR.out.f0
    have f1 := HR.out.f1
    by_cases hstop : t ≠ 0 ∧ r.data.toList = []
    · have e1 : (((t : Int) + 1) == 1) = false := beq_eq_false_iff_ne.2 (by omega)
      have e2 : r.toList = [] := by rw [Lib.toList_data]; exact hstop.2
      have b0 := HP.out.box0
      have b1 := HP.out.box1
      have HOC : Hid (OwnC (wr.setCell ⟨B, 0, none⟩ (.int .i64 c.log)) (B + 2) v ps) := hid (HP.out.own.setBelow (by show B < B + 2; omega) _)
      have HOD : Hid (∀ u, OwnC ((wr.setCell ⟨B, 0, none⟩ (.int .i64 c.log)).setCell ⟨B, 1, none⟩ u) (B + 2) v ps) := hid (fun u => HOC.out.setBelow (by show B < B + 2; omega) _)
      obtain ⟨va, vc, hve⟩ : ∃ va vc, v = .slice va ps.length vc := ⟨_, _, HP.out.own.row.1⟩
      obtain ⟨pk, hpk⟩ : ∃ x, ps.length = x := ⟨_, rfl⟩
      rw [hpk] at hve
      subst hve
      have HS := hid hstop
      clear hstop hpk HOC
      go_wp2_with fail
      refine bodyPost_ret (results_circ rfl rfl (set_two r0 r1).1 (set_two r0 r1).2) rfl ?_
      have ht := HT.out
      rw [HS.out.2, textFrom_end _ _ (by have := HS.out.1; omega)] at ht
      rw [HBE.out]
      refine ⟨(HB.out.setCell (Nat.le_refl _) _).setCell (Nat.le_refl _) _, .inr ⟨c, _, ps, ht.symm, ⟨Nat.le_trans HU.out.1 (by omega), fun l hl => Nat.le_trans (HU.out.2 l hl) (by omega)⟩, rfl, (HOD.out _).lower (by omega), HP.out.lay⟩⟩
    · have hh : ((((t : Int) + 1) == 1) = true) ∨ (((((t : Int) + 1) == 1) = false) ∧ (r.toList == []) = false) := by
        by_cases ht : t = 0
        · exact .inl (by rw [ht]; rfl)
        · exact .inr ⟨beq_eq_false_iff_ne.2 (by omega), beq_eq_false_iff_ne.2 (fun e => hstop ⟨ht, by rw [← Lib.toList_data]; exact e⟩)⟩
      have hM1 := (HB.out.cell (p := ⟨0, 0, none⟩) HML.out).trans HM.out
      have HCU := hid (Tryz.strings_Cut r ⟨#[10]⟩ M wr (by omega) hM1)
      have HS : Hid (t = 0 ∨ r.data.toList ≠ []) := hid (by by_cases ht : t = 0; exact .inl ht; exact .inr fun e => hstop ⟨ht, e⟩)
      clear hstop hM1
      cases hc : cutL 10 r.data.toList with
      | none =>
        rw [cut_none hc] at HCU
        have HN : Hid (textQ s.data.toList = .error (t + 1)) := hid (by rw [← HT.out]; exact textFrom_last hc HS.out)
        clear hc
        rcases hh with e1 | ⟨e1, e2⟩
        all_goals
          go_wp2_with fail
          refine HCU.out.mono ?_
          rintro e w1 ⟨rfl, nq, hw1⟩
          have hbq : Below wr.heap.size wr w1 := by rw [hw1]; exact ⟨rfl, rfl, rfl, Nat.le_refl _, fun _ _ => rfl⟩
          have HR1 := hid (HR.out.kept hbq HR.out.lt)
          have HB1 := hid (HB.out.trans (hbq.mono (by have := HB.out.size; rw [HBE.out] at this; exact this)))
          clear hbq hw1 r0 r1 f0 f1
          have r0 := HR1.out.c0
          have r1 := HR1.out.c1
          have f0 := HR1.out.f0
          have f1 := HR1.out.f1
          go_wp2_with fail
          refine bodyPost_ret (results_circ rfl rfl (set_two r0 r1).1 (set_two r0 r1).2) rfl ?_
          rw [HBE.out]
          refine ⟨(HB1.out.setCell (Nat.le_refl _) _).setCell (Nat.le_refl _) _, .inl ⟨t + 1, HN.out, by omega, by omega, by simp⟩⟩
      | some pr =>
        obtain ⟨p, rr⟩ := pr
        obtain ⟨pb, rfl⟩ : ∃ x : ByteArray, p = x.data.toList := ⟨⟨p.toArray⟩, by simp⟩
        obtain ⟨rb, rfl⟩ : ∃ x : ByteArray, rr = x.data.toList := ⟨⟨rr.toArray⟩, by simp⟩
        rw [cut_some hc] at HCU
        have hlen := cut_length hc
        rw [list_size, list_size, list_size] at hlen
        have HTL := hid (textFrom_line (i := t) (c := c) hc)
        clear hc
        rcases hh with e1 | ⟨e1, e2⟩
        all_goals
          go_wp2_with fail
          refine HCU.out.mono ?_
          rintro e w1 ⟨rfl, nq, hw1⟩
          have hbq : Below wr.heap.size wr w1 := by rw [hw1]; exact ⟨rfl, rfl, rfl, Nat.le_refl _, fun _ _ => rfl⟩
          have HR1 := hid (HR.out.kept hbq HR.out.lt)
          have HP1 := hid (HP.out.kept hbq)
          have HB1 := hid (HB.out.trans (hbq.mono (by have := HB.out.size; rw [HBE.out] at this; exact this)))
          clear hbq hw1 r0 r1 f0 f1
          go_wp2_with fail
          refine (rline_any (B + 1) (B + 1) (B + 2) t c v ps pb M w1 (by omega) (by omega) (Nat.le_trans (HP1.out.upTo HU.out).1 (by omega)) (fun p hp => Nat.le_trans ((HP1.out.upTo HU.out).2 p hp) (by omega)) ((HB1.out.cell (p := ⟨0, 0, none⟩) HML.out).trans HM.out) HP1.out).mono ?_
          rintro e w2 ⟨hb2, hcase⟩
          have HR2 := hid (HR1.out.kept hb2 (Nat.lt_succ_self _))
          have HB2 := hid (HB1.out.trans (hb2.mono (Nat.le_succ _)))
          have r0 := HR2.out.c0
          have r1 := HR2.out.c1
          have f0 := HR2.out.f0
          have f1 := HR2.out.f1
          clear hb2 HP HP1 HR1 HB1 HR HB HCU
          rcases hcase with ⟨hno, rfl⟩ | ⟨c2, v2, ps2, hyes, rfl, HP2⟩
          · rw [hno] at HTL
            have HN : Hid (textQ s.data.toList = .error (t + 1)) := hid (by rw [← HT.out]; exact HTL.out)
            clear hno HTL
            go_wp2_with fail
            refine bodyPost_ret (results_circ rfl rfl (set_two r0 r1).1 (set_two r0 r1).2) rfl ?_
            rw [HBE.out]
            refine ⟨(HB2.out.setCell (Nat.le_refl _) _).setCell (Nat.le_refl _) _, .inl ⟨t + 1, HN.out, by omega, by omega, by simp⟩⟩
          · rw [hyes] at HTL
            have HU2 := hid (line_upTo HU.out hyes)
            have HPP := hid HP2
            clear hyes HP2
            go_wp2_with fail
            go_roundg (rb.size)
            case measure => go_light; omega
            case rel => exact ⟨t + 1, rb, c2, v2, ps2, rfl, rfl, by go_num, by omega, HPP, hid (by rw [← HT.out]; exact HTL.out.symm), HU2, HR2, HB2⟩

end Go.Proofs.YtiohbjnnfkadnaaGreatDoor

/-
  A contract of package circuit's Parse, for every text; what it makes is new.
-/
namespace Go.Proofs.YtiohbjnnfkadnaaGreatDoor
open Go.RowKit Go.PlainAid
set_option linter.unusedVariables false
attribute [local go_sem ↓] Go.wp_at_zero Go.wp_at_succ

theorem results_three {fn : Func} {p u v : Tmp} {ty : TypeId} (h : fn.results = #[.cell p ty, .tmp u, .tmp v]) (tmps : Array Value) (P : Program) (w : World) :
    (results fn tmps).run P w =
      ((asAddr (tmps.getD p undef)).run P w).andThen fun a w₁ => ((loadVar ty a).run P w₁).andThen fun x w₂ => .ok (.tuple #[x, tmps.getD u undef, tmps.getD v undef]) w₂ := by
  simp only [results, h]
  simp [Sem.run_bind, Result.andThen]
theorem results_circ3 {fn : Func} {p u v : Tmp} (h : fn.results = #[.cell p 88, .tmp u, .tmp v]) {tmps : Array Value} {w : World} {b : Nat} {x0 x1 : Value} (hp : tmps.getD p undef = .pointer (some ⟨b, 0, none⟩)) (c0 : w.cell? ⟨b, 0, none⟩ = some x0) (c1 : w.cell? ⟨b, 1, none⟩ = some x1) :
    (results fn tmps).run Tryz.prog w = .ok (.tuple #[.agg #[x0, x1], tmps.getD u undef, tmps.getD v undef]) w := by
  rw [results_three h, hp]
  simp [asAddr, Result.andThen, load_circ c0 c1]

set_option maxHeartbeats 2000000 in
set_option maxRecDepth 100000 in
theorem parse_any (s : ByteArray) (M : Int) (w : World) (hM : w.cell? ⟨0, 0, none⟩ = some (.int .i64 M)) :
    Calls Tryz.prog 107 #[.string s] w fun e w' => Below w.heap.size w w' ∧
      ∃ (c : CQ) (at' : Nat) (x : Int) (v : Value) (ps : List (LQ × Value)), parseE s.data.toList c at' x ∧ c.upTo 4096 ∧ at' ≤ 4097 ∧ e = .returned (.tuple #[.agg #[.int .i64 c.log, v], .int .i64 (at' : Int), .int .i64 x]) ∧ OwnC w' w.heap.size v ps ∧ c.layers = ps.map (·.1) := by
  have HSZ := hid (list_size s)
  have HZ : Hid ((⟨0, []⟩ : CQ).upTo 4096) := hid ⟨by simp, by simp⟩
  have hA := (Below.refl w.heap.size w).alloc (Nat.le_refl _) (.cells #[.int .i64 0, .slice none 0 0] 88)
  have hR := RC.start w 88
  have hM0 := (hA.cell (World.block_lt_of_cell? w _ hM)).trans hM
  have hs0 : (w.alloc (.cells #[.int .i64 0, .slice none 0 0] 88)).heap.size = w.heap.size + 1 := by simp
  have HRL := fun h => hid (rlines_any s M _ h hM0)
  rw [hs0] at HRL
  have HB0 := hid hA
  have HR0 := hid hR
  have HS0 := hid hs0
  clear hA hR hM0 hM hs0
  by_cases hs : 4096 < s.size
  · have hsi : (4096 : Int) < (s.size : Int) := by omega
    have r0 := HR0.out.c0
    have r1 := HR0.out.c1
    have f0 := HR0.out.f0
    have f1 := HR0.out.f1
    go_enter Tryz.func107, Tryz.ntmps107
    go_wp2_with fail
    refine bodyPost_ret (results_circ3 rfl rfl r0 r1) rfl ?_
    exact ⟨HB0.out, ⟨0, []⟩, 0, 2, .slice none 0 0, [], .inl ⟨by rw [HSZ.out]; exact hs, rfl, rfl, rfl⟩, HZ.out, by omega, rfl, OwnC.nil _ _, rfl⟩
  · have hsi : ¬ ((4096 : Int) < (s.size : Int)) := by omega
    have HRL := HRL (by omega)
    go_enter Tryz.func107, Tryz.ntmps107
    go_wp2_with fail
    refine HRL.out.mono ?_
    rintro e w1 ⟨hb1, hcase⟩
    obtain ⟨B, hB⟩ : ∃ B, w.heap.size = B := ⟨_, rfl⟩
    rw [hB] at hb1 hcase HR0 HB0 HS0 ⊢
    have HR1 := hid (HR0.out.kept hb1 (Nat.lt_succ_self _))
    have HB1 := hid (HB0.out.trans (hb1.mono (Nat.le_succ _)))
    have HBE := hid hB
    clear hb1 HR0 HRL hB HS0
    have r0 : ∀ o, (w1.alloc o).cell? ⟨B, 0, none⟩ = some (.int .i64 0) := fun o => by rw [World.cell?_alloc_old _ _ _ (Nat.ne_of_lt HR1.out.lt)]; exact HR1.out.c0
    have r1 : ∀ o, (w1.alloc o).cell? ⟨B, 1, none⟩ = some (.slice none 0 0) := fun o => by rw [World.cell?_alloc_old _ _ _ (Nat.ne_of_lt HR1.out.lt)]; exact HR1.out.c1
    have f0 : ∀ o, (w1.alloc o).frozen? ⟨B, 0, none⟩ = false := fun o => by rw [World.frozen?_alloc_old _ _ _ (Nat.ne_of_lt HR1.out.lt)]; exact HR1.out.f0
    have f1 : ∀ o, (w1.alloc o).frozen? ⟨B, 1, none⟩ = false := fun o => by rw [World.frozen?_alloc_old _ _ _ (Nat.ne_of_lt HR1.out.lt)]; exact HR1.out.f1
    have hsz : B ≤ w1.heap.size := Nat.le_of_lt HR1.out.lt
    rcases hcase with ⟨n, htx, n1, n2, rfl⟩ | ⟨c, v, ps, htx, hup, rfl, hoc, hlay⟩
    · have e1 : ((n : Int) != 0) = true := by simp; omega
      go_wp2_with fail
      refine bodyPost_ret (results_circ3 rfl rfl (set_two (r0 _) (r1 _)).1 (set_two (r0 _) (r1 _)).2) rfl ?_
      rw [HBE.out]
      exact ⟨((HB1.out.alloc hsz _).setCell (Nat.le_refl _) _).setCell (Nat.le_refl _) _, ⟨0, []⟩, n, 3, .slice none 0 0, [], .inr (.inl ⟨by rw [HSZ.out]; omega, htx, rfl, rfl⟩), HZ.out, n2, rfl, OwnC.nil _ _, rfl⟩
    · obtain ⟨hve, _, _, hrow⟩ := hoc.row
      obtain ⟨va, hva⟩ : ∃ x, adrV v = x := ⟨_, rfl⟩
      obtain ⟨vc, hvc⟩ : ∃ x, capV v = x := ⟨_, rfl⟩
      rw [hva, hvc] at hve
      rw [hva, ← hlay] at hrow
      have hlen : c.layers.length = ps.length := by rw [hlay, List.length_map]
      obtain ⟨pk, hpk⟩ : ∃ x, ps.length = x := ⟨_, rfl⟩
      rw [hpk] at hve hlen
      subst hve
      have hal := (Below.refl w1.heap.size w1).alloc (Nat.le_refl _) (.cells #[.int .i64 c.log, .slice va pk vc] 88)
      have HROW := hid (hrow.kept hal)
      have HOC := hid (hoc.kept hal)
      have HRC := hid (HR1.out.kept hal HR1.out.lt)
      have HBA := hid (HB1.out.alloc hsz (.cells #[.int .i64 c.log, .slice va pk vc] 88))
      have HLAY := hid hlay
      have HLEN := hid hlen
      have HTX := hid htx
      have HUP := hid hup
      have hw2 : (w1.alloc (.cells #[.int .i64 c.log, .slice va pk vc] 88)).heap.size = w1.heap.size + 1 := by simp
      clear hrow hal hoc hlay hlen htx hup hva hvc hpk
      go_wp2_with fail
      refine (check_any c c.log va pk vc _ _ _ rfl HLEN.out HROW.out).mono ?_
      rintro e w3 ⟨x, rfl, hx, hb3⟩
      have HX := hid hx
      have HOC3 := hid (HOC.out.kept hb3)
      have HRC3 := hid (HRC.out.kept hb3 HRC.out.lt)
      have HB3 := hid (HBA.out.trans (hb3.mono (by rw [hw2]; omega)))
      have k0 := (hb3.cell (p := ⟨w1.heap.size, 0, none⟩) (by rw [hw2]; exact Nat.lt_succ_self _)).trans (World.cell?_alloc_new _ _ _ _)
      have k1 := (hb3.cell (p := ⟨w1.heap.size, 1, none⟩) (by rw [hw2]; exact Nat.lt_succ_self _)).trans (World.cell?_alloc_new _ _ _ _)
      clear r0 r1 f0 f1 hx hb3 HOC HRC HBA HROW hw2
      have r0 := HRC3.out.c0
      have r1 := HRC3.out.c1
      have f0 := HRC3.out.f0
      have f1 := HRC3.out.f1
      simp at k0 k1
      by_cases h0 : x = 0
      · subst h0
        have HOC4 := hid (fun u u' => (HOC3.out.setBelow (a := ⟨B, 0, none⟩) (Nat.lt_succ_self B) u).setBelow (a := ⟨B, 1, none⟩) (Nat.lt_succ_self B) u')
        go_wp2_with fail
        refine bodyPost_ret (results_circ3 rfl rfl (set_two r0 r1).1 (set_two r0 r1).2) rfl ?_
        rw [HBE.out]
        exact ⟨(HB3.out.setCell (Nat.le_refl _) _).setCell (Nat.le_refl _) _, c, 0, 0, _, ps, .inr (.inr ⟨by rw [HSZ.out]; omega, c, HTX.out, HX.out, rfl, fun _ => rfl, fun h => absurd rfl h⟩), HUP.out, by omega, rfl, (HOC4.out _ _).lower (Nat.le_succ _), HLAY.out⟩
      · have e1 : (x != 0) = true := by simp; exact h0
        go_wp2_with fail
        refine bodyPost_ret (results_circ3 rfl rfl (set_two r0 r1).1 (set_two r0 r1).2) rfl ?_
        rw [HBE.out]
        exact ⟨(HB3.out.setCell (Nat.le_refl _) _).setCell (Nat.le_refl _) _, ⟨0, []⟩, 0, x, .slice none 0 0, [], .inr (.inr ⟨by rw [HSZ.out]; omega, c, HTX.out, HX.out, rfl, fun h => absurd h h0, fun _ => rfl⟩), HZ.out, by omega, rfl, OwnC.nil _ _, rfl⟩

end Go.Proofs.YtiohbjnnfkadnaaGreatDoor
