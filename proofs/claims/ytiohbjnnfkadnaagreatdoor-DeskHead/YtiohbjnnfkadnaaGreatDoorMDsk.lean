/-
  Several texts in one: DskQ, DkU, DskF, RefRd, RefPc, DskW, DskN, DkV; each opens with what it holds.
-/
import Derived.Test.YtiohbjnnfkadnaaGreatDoorText
import Derived.Lib.ItoaNum
import Derived.Test.YtiohbjnnfkadnaaGreatDoorMem
import Derived.Test.YtiohbjnnfkadnaaGreatDoorChecked
import Derived.Lib.Strings
import Derived.Lib.Walk
import Derived.Lib.ConvBytes
import Derived.Lib.ParseIntBMem
import Derived.Lib.Hide
import Derived.Laws.Strings3
import Derived.Laws.Closers25
import Derived.Laws.Closers25b
import Derived.WalkKit
import Derived.BigCall
import Derived.BigGuard
import Derived.PlainAid
import Derived.Below
import Derived.Test.YtiohbjnnfkadnaaGreatDoorShelfU
import Derived.Lib.AppendIntMem
import Derived.Test.YtiohbjnnfkadnaaGreatDoorMTx
import Derived.Test.YtiohbjnnfkadnaaGreatDoorRefIn
import Derived.Deep.RegionLaw
import Derived.Deep.AppendLies
import Derived.Laws.Concat
import Derived.Test.YtiohbjnnfkadnaaGreatDoorOwn
import Derived.Test.YtiohbjnnfkadnaaGreatDoorShelfD
import Derived.Test.YtiohbjnnfkadnaaGreatDoorBits
import Derived.BigQuiet
/-
  Plain: what a desk answers (the document's chapter 12), byte by byte; no program in it.
-/
namespace Go.Proofs.YtiohbjnnfkadnaaGreatDoor
set_option linter.unusedVariables false

/-- The lines of a text: what stands ahead of each byte 10, and what stands behind the last one, if that isn't empty. -/
def linesD (s : List UInt8) : List (List UInt8) := if (piecesL 10 s).getLast? = some [] then (piecesL 10 s).dropLast else piecesL 10 s
/-- The words of a line. -/
def wordsD (l : List UInt8) : List (List UInt8) := (piecesL 32 l).filter fun p => !p.isEmpty
/-- Words with one blank between. -/
def joinD : List (List UInt8) → List UInt8
  | [] => []
  | [x] => x
  | x :: y :: r => x ++ 32 :: joinD (y :: r)
theorem joinD_snoc : ∀ (l : List (List UInt8)) (x : List UInt8), joinD (l ++ [x]) = if l = [] then x else joinD l ++ 32 :: x
  | [], x => rfl
  | [y], x => by simp [joinD]
  | y :: z :: r, x => by
    have ih := joinD_snoc (z :: r) x
    rw [if_neg (by simp)] at ih
    show y ++ 32 :: joinD ((z :: r) ++ [x]) = _
    rw [ih, if_neg (by simp)]
    simp [joinD]

/-- What digits tell. -/
def valD (l : List UInt8) : Nat := l.foldl (fun v d => v * 10 + (d.toNat - 48)) 0
theorem valD_snoc (l : List UInt8) (d : UInt8) : valD (l ++ [d]) = valD l * 10 + (d.toNat - 48) := by simp [valD]
theorem dig_byte {k : Nat} (h : k < 10) : (UInt8.ofNat (48 + k)).toNat = 48 + k := by
  have : (48 + k) % 256 = 48 + k := Nat.mod_eq_of_lt (by omega)
  simpa using this
theorem decDigits_step {u : Nat} (h : ¬ u < 10) : Lib.decDigits u = Lib.decDigits (u / 10) ++ [UInt8.ofNat (48 + u % 10)] := by
  rw [Lib.decDigits, dif_neg h]
theorem valD_dec (u : Nat) : valD (Lib.decDigits u) = u := by
  induction u using Nat.strongRecOn with
  | _ u ih =>
    by_cases h : u < 10
    · rw [Lib.decDigits_one h]
      have := dig_byte h
      simp [valD]
      simp at this
      omega
    · rw [decDigits_step h, valD_snoc, ih (u / 10) (by omega), dig_byte (Nat.mod_lt _ (by omega))]
      omega
theorem dec_inj {a b : Nat} (h : Lib.decDigits a = Lib.decDigits b) : a = b := by rw [← valD_dec a, ← valD_dec b, h]
theorem dec_digits (u : Nat) : ∀ d ∈ Lib.decDigits u, 48 ≤ d.toNat ∧ d.toNat ≤ 57 := by
  induction u using Nat.strongRecOn with
  | _ u ih =>
    by_cases h : u < 10
    · rw [Lib.decDigits_one h]
      intro d hd
      simp only [List.mem_singleton] at hd
      subst hd
      rw [dig_byte h]
      omega
    · rw [decDigits_step h]
      intro d hd
      rcases List.mem_append.1 hd with hd | hd
      · exact ih (u / 10) (by omega) d hd
      · simp only [List.mem_singleton] at hd
        subst hd
        rw [dig_byte (Nat.mod_lt _ (by omega))]
        have := Nat.mod_lt u (show 0 < 10 by omega)
        omega
theorem valD_take_le (l : List UInt8) (t : Nat) : valD (l.take t) ≤ valD l := by
  by_cases h : t < l.length
  · have e : l = l.take t ++ l.drop t := (List.take_append_drop t l).symm
    have : ∀ (r : List UInt8) (q : List UInt8), valD q ≤ valD (q ++ r) := by
      intro r
      induction r with
      | nil => intro q; simp
      | cons d r ih =>
        intro q
        have h1 := ih (q ++ [d])
        rw [valD_snoc] at h1
        rw [show q ++ d :: r = (q ++ [d]) ++ r from by simp]
        omega
    have h2 := this (l.drop t) (l.take t)
    rw [← e] at h2
    exact h2
  · rw [List.take_of_length_le (by omega)]
    exact Nat.le_refl _
/-- A word is the number n. -/
def IsNum (w : List UInt8) (n : Nat) : Prop := n ≤ 9223372036854775807 ∧ w = Lib.decDigits n
theorem IsNum.one {w : List UInt8} {n m : Nat} (h : IsNum w n) (g : IsNum w m) : n = m := dec_inj (h.2.symm.trans g.2)
/-- Words that are numbers. -/
def IsNums (ws : List (List UInt8)) (l : List Nat) : Prop := ws = l.map Lib.decDigits ∧ ∀ n ∈ l, n ≤ 9223372036854775807
theorem map_dec_inj : ∀ {l m : List Nat}, l.map Lib.decDigits = m.map Lib.decDigits → l = m
  | [], [], _ => rfl
  | [], _ :: _, h => by simp at h
  | _ :: _, [], h => by simp at h
  | a :: l, b :: m, h => by
    simp only [List.map_cons, List.cons.injEq] at h
    rw [dec_inj h.1, map_dec_inj h.2]
theorem IsNums.one {ws : List (List UInt8)} {l m : List Nat} (h : IsNums ws l) (g : IsNums ws m) : l = m := map_dec_inj (h.1.symm.trans g.1)
/-- Numbers with blanks between; an error. -/
def saidD (l : List Nat) : List UInt8 := joinD (l.map Lib.decDigits)
def wrongD (e : Nat) : List UInt8 := [101, 114, 114, 111, 114, 32] ++ Lib.decDigits e

/-- A list's numbers. -/
def fOf (l : List Nat) (j : Nat) : Int := ((l.getD j 0 : Nat) : Int)
theorem fOf_snoc_lt (l : List Nat) (z : Nat) {j : Nat} (h : j < l.length) : fOf l j = fOf (l ++ [z]) j := by
  unfold fOf
  rw [List.getD_eq_getElem?_getD, List.getD_eq_getElem?_getD, List.getElem?_append_left h]
theorem fOf_snoc (l : List Nat) (z : Nat) : fOf (l ++ [z]) l.length = (z : Int) := by
  unfold fOf
  rw [List.getD_eq_getElem?_getD]
  simp
theorem IsNums.nil : IsNums [] [] := ⟨rfl, fun n hn => by cases hn⟩
theorem IsNums.snoc {ws : List (List UInt8)} {l : List Nat} {x : List UInt8} {z : Nat} (h : IsNums ws l) (hz : IsNum x z) : IsNums (ws ++ [x]) (l ++ [z]) := by
  refine ⟨by rw [h.1, hz.2]; simp, fun n hn => ?_⟩
  rcases List.mem_append.1 hn with hn | hn
  · exact h.2 n hn
  · simp only [List.mem_singleton] at hn
    subst hn
    exact hz.1
theorem IsNums.at {ws : List (List UInt8)} {l : List Nat} (h : IsNums ws l) {x : List UInt8} (hx : x ∈ ws) : ∃ z, IsNum x z := by
  rw [h.1] at hx
  obtain ⟨z, hz, rfl⟩ := List.mem_map.1 hx
  exact ⟨z, h.2 z hz, rfl⟩
theorem IsNums.len {ws : List (List UInt8)} {l : List Nat} (h : IsNums ws l) : l.length = ws.length := by rw [h.1]; simp

end Go.Proofs.YtiohbjnnfkadnaaGreatDoor

/-
  Contract of internal/strconv.ParseUint to the base 10 and of 63 bits; it makes new blocks and writes nothing that was there.
-/
namespace Go.Proofs.YtiohbjnnfkadnaaGreatDoor
open Go.RowKit Go.PlainAid
set_option linter.unusedVariables false

theorem lower_any (c : Int) (w : World) : Calls Tryz.prog 192 #[.int .u8 c] w fun e w' => e = .returned (.int .u8 (bits .or .u8 c 32)) ∧ w' = w := by
  go_enter Tryz.func192, Tryz.ntmps192
  go_wp2
  go_ret
  exact ⟨rfl, rfl⟩

set_option maxHeartbeats 2000000 in
set_option maxRecDepth 100000 in
theorem puin_none (w : World) : Calls Tryz.prog 173 #[.string ⟨#[]⟩, .int .i64 10, .int .i64 63] w fun e w' => e = .returned (Lib.uintTupleM 230 9223372036854775807 .syntax) ∧ w' = w := by
  go_enter Tryz.func173, Tryz.ntmps173
  go_wp2
  all_goals go_ret2
  all_goals exact ⟨rfl, rfl⟩

set_option maxHeartbeats 32000000 in
set_option maxRecDepth 100000 in
/-- Of a text that isn't empty. -/
theorem puin_some (t : ByteArray) (hne : t.size ≠ 0) (hmax : t.size ≤ 2000000) (w : World) :
    Calls Tryz.prog 173 #[.string t, .int .i64 10, .int .i64 63] w fun e w' => e = .returned (Lib.uintTupleM 230 9223372036854775807 (Lib.parseUintM 9223372036854775807 0 t.data.toList)) ∧ w' = Lib.bytesWorld w 5 t := by
  have hemp : t.toList.isEmpty = false := by
    rw [← decide_eq_emptyBytes]
    exact decide_eq_false (fun h => hne (by rw [h]; rfl))
  have hcv := Lib.run_convert_string_bytes (P := Tryz.prog) w 9 33 5 t (u := .string) Tryz.underlying9 Tryz.underlying33 Tryz.underlying5
  have hB : ∀ j, j < t.size → (Lib.bytesWorld w 5 t).cell? ⟨w.heap.size, j, none⟩ = some (.int .u8 (t.data.toList.getD j 0).toNat) := fun j hj => Lib.bytesWorld_cell w 5 t j hj
  obtain ⟨W1, hW1⟩ : ∃ W1, W1 = Lib.bytesWorld w 5 t := ⟨_, rfl⟩
  rw [← hW1] at hcv hB ⊢
  clear hW1
  obtain ⟨bs, hL⟩ : ∃ bs, bs = t.data.toList := ⟨_, rfl⟩
  have hLn : bs.length = t.size := by rw [hL, Lib.size_eq]
  rw [← hL] at hB ⊢
  clear hL
  have hmv : IntKind.u64.wrap (IntKind.u64.wrap 9223372036854775808 - 1) = 9223372036854775807 := by
    rw [IntKind.wrap_u64, IntKind.wrap_u64]
    decide
  go_enter Tryz.func173, Tryz.ntmps173
  go_wp2
  go_loop [12, 13, 101] (fun vu vn vi => ∃ (k acc : Nat) (a : Int), vu = .bool false ∧ vn = .int .u64 a ∧ vi = .int .i64 k ∧ k ≤ t.size ∧ Hid (a = (acc : Int) ∧ acc ≤ 9223372036854775807 ∧ Lib.parseUintM 9223372036854775807 0 bs = Lib.parseUintM 9223372036854775807 acc (bs.drop k)))
    (fun _ _ vi => t.size - (Lib.intOf vi).toNat)
  case atStart => exact ⟨0, 0, 0, rfl, rfl, rfl, by omega, rfl, by omega, rfl⟩
  case round =>
    obtain ⟨k, acc, a, rfl, rfl, rfl, hk, hh⟩ := hrel
    obtain ⟨ha, hacc, hdec⟩ := hh.out
    clear hh
    have a0 : 0 ≤ a := by omega
    have a1 : a ≤ 9223372036854775807 := by omega
    by_cases hkn : k < t.size
    · have hc := hB k hkn
      have hdrop : bs.drop k = bs[k]'(by omega) :: bs.drop (k + 1) := List.drop_eq_getElem_cons (by omega)
      have hget : bs.getD k 0 = bs[k]'(by omega) := by simp [List.getD, List.getElem?_eq_getElem (show k < bs.length by omega)]
      rw [hdrop] at hdec
      rw [hget] at hc
      generalize bs[k]'(by omega) = c at hc hdec
      have hc256 : c.toNat < 256 := c.toNat_lt
      clear hB hdrop hget
      by_cases hdig : 48 ≤ c.toNat ∧ c.toNat ≤ 57
      · obtain ⟨hd0, hd1⟩ := hdig
        by_cases hcut : 1844674407370955162 ≤ acc
        · have hF : Lib.parseUintM 9223372036854775807 acc (c :: bs.drop (k + 1)) = .range := by simp [Lib.parseUintM, hd0, hd1, hcut]
          rw [hF] at hdec
          have icut : 1844674407370955162 ≤ a := by omega
          clear hcut hacc hF ha
          go_wp2
          go_ret2
          exact ⟨rfl, rfl⟩
        · by_cases hov : 9223372036854775807 < acc * 10 + (c.toNat - 48)
          · have hF : Lib.parseUintM 9223372036854775807 acc (c :: bs.drop (k + 1)) = .range := by simp [Lib.parseUintM, hd0, hd1, hcut, hov]
            rw [hF] at hdec
            have icut : a < 1844674407370955162 := by omega
            by_cases hw : 18446744073709551616 ≤ a * 10 + ((c.toNat : Int) - 48)
            · have hwr : IntKind.u64.wrap (a * 10 + ((c.toNat : Int) - 48)) = a * 10 + ((c.toNat : Int) - 48) - 18446744073709551616 := by
                rw [IntKind.wrap_u64]
                omega
              clear hcut hacc hF hov ha
              go_wp2
              go_ret2
              exact ⟨rfl, rfl⟩
            · have iov : 9223372036854775807 < a * 10 + ((c.toNat : Int) - 48) := by omega
              have iow : a * 10 + ((c.toNat : Int) - 48) < 18446744073709551616 := by omega
              clear hcut hacc hF hov ha hw
              go_wp2
              go_ret2
              exact ⟨rfl, rfl⟩
          · have hF : Lib.parseUintM 9223372036854775807 acc (c :: bs.drop (k + 1)) = Lib.parseUintM 9223372036854775807 (acc * 10 + (c.toNat - 48)) (bs.drop (k + 1)) := by simp [Lib.parseUintM, hd0, hd1, hcut, hov]
            have HN : Hid (a * 10 + ((c.toNat : Int) - 48) = ((acc * 10 + (c.toNat - 48) : Nat) : Int) ∧ acc * 10 + (c.toNat - 48) ≤ 9223372036854775807 ∧ Lib.parseUintM 9223372036854775807 0 bs = Lib.parseUintM 9223372036854775807 (acc * 10 + (c.toNat - 48)) (bs.drop (k + 1))) := Lib.hid ⟨by omega, by omega, hdec.trans hF⟩
            have icut : a < 1844674407370955162 := by omega
            have iov : a * 10 + ((c.toNat : Int) - 48) ≤ 9223372036854775807 := by omega
            clear hcut hacc hF hov hdec ha
            go_wp2
            refine ⟨⟨k + 1, acc * 10 + (c.toNat - 48), a * 10 + ((c.toNat : Int) - 48), rfl, (by first | rfl | (congr 1; omega)), (by first | rfl | (congr 1; omega)), by omega, HN⟩, by simp [Lib.intOf]; omega⟩
      · have hF : Lib.parseUintM 9223372036854775807 acc (c :: bs.drop (k + 1)) = .syntax := by simp [Lib.parseUintM, hdig]
        rw [hF] at hdec
        clear hacc hF ha
        have hv0 := bits_lo_u8 .or (c.toNat : Int) 32
        have hv1 := bits_hi_u8 .or (c.toNat : Int) 32
        have hu0 := bits_lo_u8 .or 95 32
        have hu1 := bits_hi_u8 .or 95 32
        go_wp2_with (go_at_call 192; refine (lower_any _ _).mono ?_; rintro e w' ⟨rfl, rfl⟩)
        all_goals go_ret2
        all_goals first | exact ⟨rfl, rfl⟩ | exact ⟨by rw [hdec]; rfl, rfl⟩
    · have hkk : k = t.size := by omega
      subst hkk
      have hF : Lib.parseUintM 9223372036854775807 acc (bs.drop t.size) = .ok acc := by rw [List.drop_eq_nil_of_le (by omega)]; rfl
      rw [hF] at hdec
      subst ha
      clear hacc hF a0 a1
      go_wp2
      go_ret2
      exact ⟨rfl, rfl⟩

end Go.Proofs.YtiohbjnnfkadnaaGreatDoor

/-
  Contracts of strconv's Itoa and FormatUint at base 10: a number's numeral; they make new blocks and write nothing that was there.
-/
namespace Go.Proofs.YtiohbjnnfkadnaaGreatDoor
open Go.RowKit Go.Sort
set_option linter.unusedVariables false

/-- Go's table of powers of ten lies in its variable's block. -/
def PTab (w : World) : Prop := Lib.TabIs Tryz.prog w "internal/strconv.uint64pow10" .u64 Lib.pow10Tab
theorem PTab.kept {w w' : World} (h : PTab w) (hb : Below w.heap.size w w') : PTab w' := Lib.tabBelow_of_tabIs h w' hb
theorem grow_below (w : World) (k : Nat) (os : Array Obj) : RowKit.Below w.heap.size w (grow (w.drewN k) os) := by
  refine ⟨rfl, rfl, rfl, ?_, fun q hq => ?_⟩
  · show w.heap.size ≤ (w.heap ++ os).size
    rw [Array.size_append]
    exact Nat.le_add_right _ _
  · show (w.heap ++ os)[q]? = _
    rw [Array.getElem?_append_left hq]
theorem itoa_all (n : Nat) (w : World) (hn : n ≤ 9223372036854775807) (ht : PTab w) : Calls Tryz.prog 25 #[.int .i64 (n : Int)] w fun e w' => e = .returned (.string ⟨(Lib.decDigits n).toArray⟩) ∧ Below w.heap.size w w' :=
  (Tryz.strconv_Itoa_all (n : Int) (by omega) (by omega) w ht).mono fun e w' ⟨h1, k, os, h2⟩ => ⟨by rw [h1, Lib.itoa_nonneg], by rw [h2]; exact grow_below w k os⟩
theorem holds_zero0 (w : World) (T : TypeId) (nd : Nat) (hs : nd ≤ 24) : Holds (fun (b : UInt8) => Value.int .u8 (b.toNat : Int)) (w.alloc (.cells Lib.zeros24 T)) w.heap.size 0 (Array.replicate nd (0 : UInt8)) := fun j hj => by
  have hj' : j < nd := by simpa using hj
  refine ⟨?_, World.frozen?_alloc_new _ _ _ _⟩
  rw [World.cell?_alloc_new, Lib.zeros24_at _ (by omega), getElem!_pos _ j hj]
  simp
theorem fin_zero (w : World) (o : Obj) (dk : Array UInt8) (k : Nat) : ∃ os, (putRow (fun (b : UInt8) => Value.int .u8 (b.toNat : Int)) (w.alloc o) w.heap.size 0 dk).drewN k = grow (w.drewN k) os := by
  rw [alloc_eq_grow]
  obtain ⟨os', _, e⟩ := putRow_grow_new (fun (b : UInt8) => Value.int .u8 (b.toNat : Int)) w #[o] w.heap.size 0 dk (Nat.le_refl _)
  exact ⟨os', by rw [e]; rfl⟩

set_option maxHeartbeats 4000000 in
set_option maxRecDepth 100000 in
theorem fmt_in (u : Nat) (w : World) (hu64 : u < 18446744073709551616) (ht : PTab w) :
    Calls Tryz.prog 121 #[.int .u64 (u : Int), .int .i64 10] w fun e w' => e = .returned (.string ⟨(Lib.decDigits u).toArray⟩) ∧ Below w.heap.size w w' := by
  by_cases hs : u < 100
  · have h1 : (u : Int) < 100 := by omega
    go_enter Tryz.func121, Tryz.ntmps121
    go_wp2_with (go_at_call 137; refine (Tryz.small_at u hs _).mono ?_; rintro e w' ⟨rfl, hw⟩; obtain rfl := hw.symm)
    go_ret
    exact ⟨rfl, Below.refl _ _⟩
  · have h1 : ¬ (u : Int) < 100 := by omega
    have hu1 : 1 ≤ u := by omega
    have hnd20 : Lib.nDigits u ≤ 20 := by have := Lib.numDigits_eq u hu1 hu64; split at this <;> omega
    have hal : Tryz.prog.arrayLen 162 = 24 := by kernel_rfl
    have hsl1 : ∀ W, (Instr.sliceAt 162 (.pointer (some ⟨w.heap.size, 0, none⟩)) none (some (.int .i64 (Lib.nDigits u : Int))) none).run Tryz.prog W = .ok (.slice (some ⟨w.heap.size, 0, none⟩) (Lib.nDigits u) 24) W := fun W => by
      rw [run_sliceAt_array_h W 162 ⟨w.heap.size, 0, none⟩ (by kernel_rfl) .i64 (Lib.nDigits u : Int) (by omega) (by rw [hal]; omega)]
      go_simp
    have hH0 := holds_zero0 w 162 (Lib.nDigits u) (by omega)
    have hfmt := Tryz.formatBase10_at w.heap.size 0 24 u (Array.replicate (Lib.nDigits u) 0) (w.alloc (.cells Lib.zeros24 162)) hH0 (by rw [Array.size_replicate]; exact Lib.lt_pow_nDigits u) hu64 (by rw [Array.size_replicate]; omega)
    rw [Array.size_replicate] at hfmt
    have HH0 := hid hH0
    have HND := hid (fun W (h : PTab W) => Tryz.numDigits_at u hu1 hu64 W h)
    have HT2 := hid (Lib.tabIs_alloc ht (.cells Lib.zeros24 162))
    clear hH0 hal ht
    go_enter Tryz.func121, Tryz.ntmps121
    go_wp2_with (first
      | (go_at_call 138; refine (HND.out _ HT2.out).mono ?_; rintro e w' ⟨rfl, hw⟩; obtain rfl := hw.symm))
    refine hfmt.mono ?_
    rintro e w' ⟨rfl, k, v', dk, rfl, hF⟩
    have hcv : (convert 33 9 (.slice (some ⟨w.heap.size, 0, none⟩) (Lib.nDigits u) 24)).run Tryz.prog ((putRow (fun (b : UInt8) => Value.int .u8 (b.toNat : Int)) (w.alloc (.cells Lib.zeros24 162)) w.heap.size 0 dk).drewN k) = .ok (.string ⟨(Lib.decDigits u).toArray⟩) ((putRow (fun (b : UInt8) => Value.int .u8 (b.toNat : Int)) (w.alloc (.cells Lib.zeros24 162)) w.heap.size 0 dk).drewN k) := by
      have h := run_convert_bytes_back (P := Tryz.prog) ((putRow (fun (b : UInt8) => Value.int .u8 (b.toNat : Int)) (w.alloc (.cells Lib.zeros24 162)) w.heap.size 0 dk).drewN k) 33 9 5 ⟨w.heap.size, 0, none⟩ 24 (Lib.decDigits u) Tryz.underlying33 Tryz.underlying5 Tryz.underlying9 (fun j hj => by
        rw [Lib.row_is_numeral hF j hj, Lib.add_plain, World.cell?_drewN]
        exact cell?_putRow (fun (b : UInt8) => Value.int .u8 (b.toNat : Int)) _ w.heap.size 0 _ dk HH0.out (by rw [hF.size, Array.size_replicate]) j (by rw [hF.size]; rw [Lib.decDigits_length] at hj; exact hj))
      rw [Lib.decDigits_length] at h
      exact h
    go_wp2_with fail
    go_ret
    obtain ⟨os, eo⟩ := fin_zero w (.cells Lib.zeros24 162) dk k
    refine ⟨rfl, ?_⟩
    rw [eo]
    exact grow_below w k os
set_option maxRecDepth 100000 in
theorem fmt_any (u : Nat) (w : World) (hu64 : u < 18446744073709551616) (ht : PTab w) :
    Calls Tryz.prog 83 #[.int .u64 (u : Int), .int .i64 10] w fun e w' => e = .returned (.string ⟨(Lib.decDigits u).toArray⟩) ∧ Below w.heap.size w w' := by
  have HF := hid (fmt_in u w hu64 ht)
  clear ht
  go_enter Tryz.func83, Tryz.ntmps83
  go_wp2_with (go_at_call 121; refine (HF.out).mono ?_; rintro e w' ⟨rfl, hb⟩; have HB := hid hb; clear hb)
  go_ret
  exact ⟨rfl, HB.out⟩

end Go.Proofs.YtiohbjnnfkadnaaGreatDoor

/-
  Contracts of tallyref's small and Pieces; they make new rows and write nothing that was there.
-/
namespace Go.Proofs.YtiohbjnnfkadnaaGreatDoor
open Go.RowKit Go.PlainAid
set_option linter.unusedVariables false
attribute [local go_sem ↓] Go.wp_at_zero Go.wp_at_succ

/-- A number's text's number, or -1. -/
def smlB (s : ByteArray) : Int := (numB s).getD (-1)
/-- What the first t digits tell. -/
def valP (s : ByteArray) : Nat → Int
  | 0 => 0
  | t + 1 => valP s t * 10 + (bt s t - 48)
def digs (s : ByteArray) (t : Nat) : Prop := ∀ j, j < t → 48 ≤ bt s j ∧ bt s j ≤ 57
theorem sml_bad {s : ByteArray} {j : Nat} (hj : j < s.size) (h : ¬ (48 ≤ bt s j ∧ bt s j ≤ 57)) : smlB s = -1 := by
  have hb : (decide (48 ≤ bt s j) && decide (bt s j ≤ 57)) = false := by simp; omega
  unfold smlB numB
  by_cases h1 : s.size = 1
  · obtain rfl : j = 0 := by omega
    rw [if_pos h1, hb]; rfl
  · rw [if_neg h1]
    by_cases h2 : s.size = 2
    · rw [if_pos h2]
      have : j = 0 ∨ j = 1 := by omega
      rcases this with rfl | rfl
      · rw [hb]; rfl
      · rw [hb]; simp
    · rw [if_neg h2]; rfl
theorem sml_size {s : ByteArray} (h : ¬ (1 ≤ s.size ∧ s.size ≤ 2)) : smlB s = -1 := by
  unfold smlB numB
  rw [if_neg (by omega), if_neg (by omega)]; rfl
theorem sml_zero {s : ByteArray} (h : s.size = 2) (h0 : bt s 0 = 48) : smlB s = -1 := by
  unfold smlB numB
  rw [if_neg (by omega), if_pos h, h0]
  simp
theorem sml_one {s : ByteArray} (h : s.size = 1) (hd : digs s 1) : smlB s = valP s 1 := by
  have hb : (decide (48 ≤ bt s 0) && decide (bt s 0 ≤ 57)) = true := by simp; exact hd 0 (by omega)
  unfold smlB numB
  rw [if_pos h, hb, if_pos rfl]
  simp [valP]
theorem sml_two {s : ByteArray} (h : s.size = 2) (h0 : bt s 0 ≠ 48) (hd : digs s 2) : smlB s = valP s 2 := by
  have hb : (decide (48 ≤ bt s 0) && decide (bt s 0 ≤ 57)) = true := by simp; exact hd 0 (by omega)
  have hc : (decide (48 ≤ bt s 1) && decide (bt s 1 ≤ 57)) = true := by simp; exact hd 1 (by omega)
  have hz : (bt s 0 != 48) = true := by simp [h0]
  unfold smlB numB
  rw [if_neg (by omega), if_pos h, hb, hc, hz]
  simp [valP]
theorem valP_rng {s : ByteArray} {t : Nat} (h3 : t ≤ 3) (hd : digs s t) : 0 ≤ valP s t ∧ valP s t ≤ 999 := by
  match t, h3, hd with
  | 0, _, _ => simp [valP]
  | 1, _, hd => have := hd 0 (by omega); simp [valP]; omega
  | 2, _, hd => have := hd 0 (by omega); have := hd 1 (by omega); simp [valP]; omega
  | 3, _, hd => have := hd 0 (by omega); have := hd 1 (by omega); have := hd 2 (by omega); simp [valP]; omega
theorem smlB_rng (s : ByteArray) : -1 ≤ smlB s ∧ smlB s < 100 := by
  unfold smlB
  cases h : numB s with
  | none => simp
  | some n => have := numB_rng h; simp; omega

set_option maxHeartbeats 1000000 in
set_option maxRecDepth 100000 in
theorem rsmall_any (s : ByteArray) (w : World) (hs : s.size ≤ 5000) : Calls Tryz.prog 125 #[.string s] w fun e w' => e = .returned (.int .i64 (smlB s)) ∧ w' = w := by
  have hbt := get_bt s
  have HI := hid (fun w => rin_any (s.size : Int) 1 2 w)
  go_enter Tryz.func125, Tryz.ntmps125
  go_wp2_with fail
  go_loopg [3, 4] 4 (fun q v i wr => ∃ t : Nat, t ≤ 3 ∧ t ≤ s.size ∧ q = 4 - t ∧ v = .int .i64 (valP s t) ∧ i = .int .i64 (t : Int) ∧ wr = w ∧ Hid (digs s t))
  case atStart => exact ⟨0, by omega, by omega, rfl, rfl, rfl, rfl, hid (fun j hj => absurd hj (by omega))⟩
  case round =>
    obtain ⟨t, h3, hts, rfl, rfl, rfl, hw, HD⟩ := hrel
    obtain rfl := hw.symm
    have hv := valP_rng h3 HD.out
    obtain ⟨n, hn⟩ : ∃ n, valP s t = n := ⟨_, rfl⟩
    rw [hn] at hv ⊢
    have HNV := hid hn
    clear hn
    obtain ⟨n0, n1⟩ := hv
    have t0 : (0 : Int) ≤ (t : Int) := by omega
    by_cases hlt : t < s.size
    · have l1 : decide ((t : Int) < (s.size : Int)) = true := by simp; omega
      by_cases ht3 : t < 3
      · have l2 : decide ((t : Int) < 3) = true := by simp; omega
        have b0 : 0 ≤ bt s t := bt_nonneg s t
        have b1 : bt s t ≤ 255 := bt_le s t
        by_cases hd : 48 ≤ bt s t ∧ bt s t ≤ 57
        · have d1 : decide (bt s t < 48) = false := by simp; omega
          have d2 : decide ((57 : Int) < bt s t) = false := by simp; omega
          have HDT := hid hd
          go_wp2_with fail
          go_roundg (4 - (t + 1))
          case measure => go_light; omega
          case rel =>
            refine ⟨t + 1, by omega, by omega, rfl, ?_, by go_num, rfl, hid fun j hj => ?_⟩
            · rw [valP, HNV.out, show n * 10 + bt s t - 48 = n * 10 + (bt s t - 48) from by omega]
            · by_cases e : j < t
              · exact HD.out j e
              · rw [show j = t from by omega]; exact HDT.out
        · have HZ := hid (sml_bad hlt hd)
          by_cases hd1 : bt s t < 48
          · have d1 : decide (bt s t < 48) = true := decide_eq_true hd1
            go_wp2_with fail
            go_ret
            exact ⟨by rw [HZ.out]; rfl, rfl⟩
          · have d1 : decide (bt s t < 48) = false := decide_eq_false hd1
            have d2 : decide ((57 : Int) < bt s t) = true := by simp; omega
            go_wp2_with fail
            go_ret
            exact ⟨by rw [HZ.out]; rfl, rfl⟩
      · have l2 : decide ((t : Int) < 3) = false := by simp; omega
        have HZ := hid (sml_size (s := s) (by omega))
        have hI : (decide ((1 : Int) ≤ (s.size : Int)) && decide ((s.size : Int) ≤ 2)) = false := by simp; omega
        rw [hI] at HI
        clear hI
        go_wp2_with (go_at_call 166; refine (HI.out _).mono ?_; rintro e w' ⟨rfl, hw⟩; obtain rfl := hw.symm)
        go_ret
        exact ⟨by rw [HZ.out]; rfl, rfl⟩
    · have l1 : decide ((t : Int) < (s.size : Int)) = false := by simp; omega
      by_cases hin : 1 ≤ s.size ∧ s.size ≤ 2
      · have hI : (decide ((1 : Int) ≤ (s.size : Int)) && decide ((s.size : Int) ≤ 2)) = true := by simp; omega
        rw [hI] at HI
        clear hI
        by_cases h2 : s.size = 2
        · have e2 : ((s.size : Int) == 2) = true := by rw [h2]; rfl
          have z0 : 0 < s.size := by omega
          obtain rfl : t = 2 := by omega
          by_cases hz : bt s 0 = 48
          · have e3 : (bt s 0 == 48) = true := by simp [hz]
            have HZ := hid (sml_zero h2 hz)
            clear hz h2
            go_wp2_with (go_at_call 166; refine (HI.out _).mono ?_; rintro e w' ⟨rfl, hw⟩; obtain rfl := hw.symm)
            go_ret
            exact ⟨by rw [HZ.out]; rfl, rfl⟩
          · have e3 : (bt s 0 == 48) = false := by simp [hz]
            have HZ := hid (sml_two h2 hz HD.out)
            clear h2
            go_wp2_with (go_at_call 166; refine (HI.out _).mono ?_; rintro e w' ⟨rfl, hw⟩; obtain rfl := hw.symm)
            go_ret
            exact ⟨by rw [HZ.out, HNV.out]; rfl, rfl⟩
        · have e2 : ((s.size : Int) == 2) = false := beq_eq_false_iff_ne.2 (by omega)
          obtain rfl : t = 1 := by omega
          have HZ := hid (sml_one (by omega) HD.out)
          go_wp2_with (go_at_call 166; refine (HI.out _).mono ?_; rintro e w' ⟨rfl, hw⟩; obtain rfl := hw.symm)
          go_ret
          exact ⟨by rw [HZ.out, HNV.out]; rfl, rfl⟩
      · have hI : (decide ((1 : Int) ≤ (s.size : Int)) && decide ((s.size : Int) ≤ 2)) = false := by simp; omega
        rw [hI] at HI
        clear hI
        have HZ := hid (sml_size hin)
        go_wp2_with (go_at_call 166; refine (HI.out _).mono ?_; rintro e w' ⟨rfl, hw⟩; obtain rfl := hw.symm)
        go_ret
        exact ⟨by rw [HZ.out]; rfl, rfl⟩

theorem Tryz.infoS : (Tryz.prog.info? 9).map (fun i => (i.zero, i.size, i.bytes)) = some (some (.string ByteArray.empty), 1, 16) := by kernel_rfl
/-- v is a list of texts of the call's own. -/
def OwnS (w : World) (base : Nat) (v : Value) (ps : List ByteArray) : Prop := w.ownsRow base 9 1 v ps.length (ps.map Value.string)
theorem snews (w : World) (x : ByteArray) (t : TypeId) : ∀ j u, [Value.string x][j]? = some u → (w.alloc (.cells #[.string x] t)).cell? ((⟨w.heap.size, 0, none⟩ : Addr).add j) = some u := by
  intro j u hj
  match j, hj with
  | 0, hj => simp at hj; subst hj; simp [Addr.add]
theorem sone (x : ByteArray) : ∀ u ∈ [Value.string x], u.oneCell' = true := by intro u hu; simp at hu; subst hu; rfl
theorem byte_bt {s : ByteArray} {i : Nat} (h : i < s.size) : ∃ d : UInt8, s.data.toList[i]? = some d ∧ bt s i = (d.toNat : Int) ∧ (s.extract i (i + 1)).data.toList = [d] := by
  have hl : i < s.data.toList.length := by obtain ⟨⟨l⟩⟩ := s; exact h
  refine ⟨s.data.toList[i], by simp, bt_at (by simp), ?_⟩
  rw [Lib.extract_data, show i + 1 - i = 1 from by omega, List.drop_eq_getElem_cons hl]
  rfl
theorem size_list (s : ByteArray) : s.size = s.data.toList.length := by obtain ⟨⟨l⟩⟩ := s; rfl
theorem list_inj {a b : ByteArray} (h : a.data.toList = b.data.toList) : a = b := by
  obtain ⟨⟨x⟩⟩ := a
  obtain ⟨⟨y⟩⟩ := b
  simp at h
  rw [h]

end Go.Proofs.YtiohbjnnfkadnaaGreatDoor

/-
  A contract of tallyref's Pieces, for every text; it makes new rows and writes nothing that was there.
-/
namespace Go.Proofs.YtiohbjnnfkadnaaGreatDoor
open Go.RowKit Go.PlainAid
set_option linter.unusedVariables false
attribute [local go_sem ↓] Go.wp_at_zero Go.wp_at_succ

theorem OwnS.kept {w w' : World} {base : Nat} {v : Value} {ps : List ByteArray} (h : OwnS w base v ps) (hb : Below w.heap.size w w') : OwnS w' base v ps := owns_kept h hb
theorem last_of {α : Type} {l : List α} (h : 0 < l.length) : ∃ q p, l = q ++ [p] := ⟨_, _, (List.dropLast_concat_getLast (l := l) (fun e => by rw [e] at h; simp at h)).symm⟩
theorem map_last {q : List ByteArray} {p : ByteArray} {b : UInt8} {l : List UInt8} (h : (q ++ [p]).map (·.data.toList) = piecesL b l) : piecesL b l = q.map (·.data.toList) ++ [p.data.toList] := by rw [← h]; simp
theorem u8_ne {d b : UInt8} (h : d ≠ b) : (d.toNat : Int) ≠ (b.toNat : Int) := fun e => h (by have h1 := byte_nat d; have h2 := byte_nat b; rw [← h1, ← h2]; congr 1; omega)

set_option maxHeartbeats 2000000 in
set_option maxRecDepth 100000 in
theorem rpieces_upto (K : Nat) (s : ByteArray) (b : UInt8) (w : World) (hs : s.size ≤ K) (hK : K ≤ 2000000) :
    Calls Tryz.prog 20 #[.string s, .int .u8 (b.toNat : Int)] w fun e w' => ∃ v ps, e = .returned v ∧ OwnS w' w.heap.size v ps ∧ ps.map (·.data.toList) = piecesL b s.data.toList ∧ (∀ p ∈ ps, p.size ≤ K) ∧ ps.length ≤ s.size + 1 ∧ Below w.heap.size w w' := by
  obtain ⟨i0, hi, hz0, hz1, hz2⟩ := info_parts Tryz.infoS
  have HI := hid (And.intro hi (And.intro hz0 (And.intro hz1 hz2)))
  clear hi hz0 hz1 hz2
  have hbt := get_bt s
  go_enter Tryz.func20, Tryz.ntmps20
  go_wp2_with fail
  have HO0 : Hid (OwnS (w.alloc (.cells #[.string ⟨#[]⟩] 9)) w.heap.size (.slice (some ⟨w.heap.size, 0, none⟩) 1 1) [⟨#[]⟩]) := hid (World.ownsRow_lit w #[.string ⟨#[]⟩] 1 (Nat.le_refl _) (by unfold maxLen; omega) rfl)
  have HB0 := hid ((Below.refl w.heap.size w).alloc (Nat.le_refl _) (.cells #[.string ⟨#[]⟩] 9))
  obtain ⟨B, hB⟩ : ∃ B, w.heap.size = B := ⟨_, rfl⟩
  rw [hB] at HO0 HB0 ⊢
  have HBE := hid hB
  clear hB
  generalize w.alloc (.cells #[.string ⟨#[]⟩] 9) = W0 at HO0 HB0 ⊢
  go_loopg [5, 6] s.size (fun q v i wr => ∃ (t : Nat) (u : Value) (ps : List ByteArray), t ≤ s.size ∧ q = s.size - t ∧ v = u ∧ i = .int .i64 (t : Int) ∧ Hid (OwnS wr B u ps) ∧ Hid (ps.map (·.data.toList) = piecesL b (s.data.toList.take t)) ∧ Hid (∀ p ∈ ps, p.size ≤ t) ∧ 1 ≤ ps.length ∧ ps.length ≤ t + 1 ∧ Hid (Below B w wr))
  case atStart => exact ⟨0, _, [⟨#[]⟩], by omega, rfl, rfl, rfl, HO0, hid (by simp [piecesL]), hid (by intro p hp; simp at hp; subst hp; exact Nat.le_refl _), by simp, by simp, HB0⟩
  case round =>
    clear HO0 HB0
    obtain ⟨t, u, ps, ht, rfl, hu, rfl, HO, HPC, HPS, l1, l2, HB⟩ := hrel
    obtain rfl := hu.symm
    have hsz : B ≤ wr.heap.size := by have h1 := HB.out.size; have h2 := HBE.out; omega
    by_cases hlt : t < s.size
    · obtain ⟨d, hd1, hd2, hd3⟩ := byte_bt hlt
      have HTK : Hid (s.data.toList.take (t + 1) = s.data.toList.take t ++ [d]) := hid (by rw [List.take_add_one, hd1]; rfl)
      have HD3 := hid hd3
      have t0 : (0 : Int) ≤ (t : Int) := by omega
      have t1 : (t : Int) < (s.size : Int) := by omega
      have bx : ((s[t]'hlt).toNat : Int) = (d.toNat : Int) := by rw [hbt, hd2]
      clear hd1 hd2 hd3
      obtain ⟨n, hn⟩ : ∃ n, ps.length = n := ⟨_, rfl⟩
      by_cases hdb : d = b
      · subst hdb
        have e1 : (((d.toNat : Int)) == (d.toNat : Int)) = true := by simp
        have HOn : Hid (wr.ownsRow B 9 1 u n (ps.map Value.string)) := hid (by have := HO.out; unfold OwnS at this; rw [hn] at this; exact this)
        rw [hn] at l1 l2
        have HN := hid hn
        clear hn hbt
        go_wp2_with (at_builtin; refine wpList_append_lies _ rfl _ _ 24 rfl B 9 i0 (.string ByteArray.empty) 1 16 Tryz.underlying24 HI.out.1 HI.out.2.1 HI.out.2.2.1 HI.out.2.2.2 rfl (by decide) _ _ _ rfl (World.ownsRow.alloc HOn.out _) ⟨wr.heap.size, 0, none⟩ 1 1 [.string ⟨#[]⟩] rfl rfl (snews wr _ _) (sone _) (by omega) (by unfold maxLen; omega) (by omega) (by simp; omega) (wr.heap.size + 1) (by simp) ?_)
        intro g2 c2 w6 hown2 hgrow2 hat2 hlt2
        have HO6 : Hid (OwnS w6 B (.slice (some ⟨g2, 0, none⟩) (n + 1) c2) (ps ++ [⟨#[]⟩])) := hid (by unfold OwnS; rw [List.length_append, HN.out, List.map_append]; exact hown2)
        have HB6 : Hid (Below B w w6) := hid ((HB.out.alloc hsz _).grown hgrow2 (by simp; omega) (by intro k hk; exact (HOn.out.lt k hk).1))
        clear hown2 hgrow2 hat2 hlt2
        go_wp2_with fail
        go_roundg (s.size - (t + 1))
        case measure => go_light; omega
        case rel =>
          refine ⟨t + 1, _, ps ++ [⟨#[]⟩], by omega, rfl, rfl, by go_num, HO6, hid ?_, hid ?_, by simp, by rw [List.length_append, HN.out]; simp; omega, HB6⟩
          · obtain ⟨q, p, rfl⟩ := last_of (l := ps) (by rw [HN.out]; omega)
            rw [HTK.out, piecesL_snoc d d _ (map_last HPC.out), if_pos rfl]
            simp
          · intro p hp
            rcases List.mem_append.1 hp with hp | hp
            · have := HPS.out p hp; omega
            · simp at hp; subst hp; exact Nat.zero_le _
      · have e1 : ((d.toNat : Int) == (b.toNat : Int)) = false := beq_eq_false_iff_ne.2 (u8_ne hdb)
        obtain ⟨q, p, hqp⟩ := last_of (l := ps) (by omega)
        obtain ⟨k, hk⟩ : ∃ k, q.length = k := ⟨_, rfl⟩
        obtain rfl : n = k + 1 := by rw [← hn, hqp, List.length_append, hk]; rfl
        obtain ⟨g, cap, hform, hg1, hg2⟩ := World.ownsRow.form HO.out (by omega)
        rw [hn] at hform
        subst hform
        have ho := HO.out
        unfold OwnS at ho
        rw [hn] at ho
        have cl : wr.cell? ⟨g, k, none⟩ = some (.string p) := by rw [ho.cellAt k (by omega), hqp, ← hk]; simp
        have fl := ho.frozenAt k
        have psz : p.size ≤ t := HPS.out p (by rw [hqp]; simp)
        have s1 := fun w => run_string_add_sum (P := Tryz.prog) w p (s.extract t (t + 1)) (by rw [ByteArray.size_extract]; omega)
        have HN := hid hn
        have HQ := hid hqp
        have HK := hid hk
        have HOn := hid ho
        rw [hn] at l1 l2
        clear hn hqp hk ho hbt
        have k0 : (0 : Int) ≤ (k : Int) := by omega
        have k1 : (k : Int) < (k : Int) + 1 := by omega
        have wk : IntKind.i64.wrap (k : Int) = (k : Int) := IntWalk.i64_in _ (by omega)
        have wt : IntKind.i64.wrap ((t : Int) + 1) = (t : Int) + 1 := IntWalk.i64_in _ (by omega)
        have t2 : (t : Int) + 1 ≤ (s.size : Int) := by omega
        have hsl := fun wx => run_slice_string (P := Tryz.prog) wx 9 s .i64 .i64 (t : Int) ((t : Int) + 1) Tryz.underlying9 (by omega) (by omega) (by omega)
        rw [show ((t : Int) + 1).toNat = t + 1 from by omega, show ((t : Int)).toNat = t from by omega] at hsl
        go_wp2_with fail
        go_region_with (first | fail)
        all_goals (go_wp2_with fail)
        all_goals (go_roundg (s.size - (t + 1)))
        all_goals first | (go_light; omega) | skip
        all_goals
          have hst := HOn.out.stored k (.string (p ++ s.extract t (t + 1)))
          have hset : (ps.map Value.string).set k (.string (p ++ s.extract t (t + 1))) = (q ++ [p ++ s.extract t (t + 1)]).map Value.string := by
            rw [HQ.out, List.map_append, List.map_append, List.set_append_right _ _ (by rw [List.length_map, HK.out]; exact Nat.le_refl _), List.length_map, HK.out, Nat.sub_self]
            rfl
          rw [hset] at hst
          refine ⟨t + 1, _, q ++ [p ++ s.extract t (t + 1)], by omega, rfl, rfl, by go_num, hid ?_, hid ?_, hid ?_, by simp, by rw [List.length_append, HK.out]; simp; omega, hid ?_⟩
          · unfold OwnS
            rw [List.length_append, HK.out]
            exact hst.1
          · have h := HPC.out
            rw [HQ.out] at h
            rw [HTK.out, piecesL_snoc b d _ (map_last h), if_neg hdb, List.map_append, List.map_cons, List.map_nil, ByteArray.data_append, Array.toList_append, HD3.out]
          · intro u hu
            rcases List.mem_append.1 hu with hu | hu
            · have := HPS.out u (by rw [HQ.out]; exact List.mem_append_left _ hu); omega
            · simp at hu
              subst hu
              rw [ByteArray.size_append, ByteArray.size_extract]
              omega
          · exact (HB.out.setCell hg1 _).drew
    · have e : t = s.size := by omega
      subst e
      go_wp2_with fail
      go_ret
      refine ⟨_, rfl, ps, by rw [HBE.out]; exact HO.out, ?_, fun p hp => by have := HPS.out p hp; omega, l2, by rw [HBE.out]; exact HB.out⟩
      rw [HPC.out, size_list, List.take_length]

theorem rpieces_any (s : ByteArray) (b : UInt8) (w : World) (hs : s.size ≤ 4096) :
    Calls Tryz.prog 20 #[.string s, .int .u8 (b.toNat : Int)] w fun e w' => ∃ v ps, e = .returned v ∧ OwnS w' w.heap.size v ps ∧ ps.map (·.data.toList) = piecesL b s.data.toList ∧ (∀ p ∈ ps, p.size ≤ 4096) ∧ ps.length ≤ s.size + 1 ∧ Below w.heap.size w w' := rpieces_upto 4096 s b w hs (by omega)

end Go.Proofs.YtiohbjnnfkadnaaGreatDoor

/-
  Contracts of tallyref's TextLines and LineWords; they make new blocks and write nothing that was there.
-/
namespace Go.Proofs.YtiohbjnnfkadnaaGreatDoor
open Go.RowKit
set_option linter.unusedVariables false
attribute [local go_sem ↓] Go.wp_at_zero Go.wp_at_succ

/-- A list of strings, by its places. -/
def sF (P : List ByteArray) (j : Nat) : ByteArray := (P[j]?).getD ByteArray.empty
/-- A list of strings. -/
def SLst (w : World) (ao : Option Addr) (ps : List ByteArray) : Prop := 0 < ps.length → ∃ b off, ao = some ⟨b, off, none⟩ ∧ ∀ i, i < ps.length → w.cell? ⟨b, off + i, none⟩ = some (.string (sF ps i))
theorem SLst.kept {w w' : World} {ao : Option Addr} {ps : List ByteArray} (h : SLst w ao ps) (hb : Below w.heap.size w w') : SLst w' ao ps := fun h0 => by
  obtain ⟨b, off, e, hr⟩ := h h0
  exact ⟨b, off, e, fun i hi => (hb.cell (World.block_lt_of_cell? w _ (hr i hi))).trans (hr i hi)⟩
theorem SLst.of {w : World} {base : Nat} {v : Value} {ps : List ByteArray} (h : OwnS w base v ps) : ∃ ao cap, v = .slice ao ps.length cap ∧ ps.length ≤ cap ∧ SLst w ao ps := by
  have h0 := h
  rcases h.2 with ⟨rfl, h1⟩ | ⟨g, cap, cur, rfl, _, _, hle, _⟩
  · exact ⟨none, 0, by rw [h1], by omega, fun h2 => by omega⟩
  · refine ⟨some ⟨g, 0, none⟩, cap, rfl, hle, fun _ => ⟨g, 0, rfl, fun i hi => ?_⟩⟩
    have hc := World.ownsRow.cellAt h0 i (by omega)
    rw [Nat.zero_add, hc]
    simp [sF, hi]
theorem linesD_of {s : List UInt8} {Q : List (List UInt8)} {z : List UInt8} (h : piecesL 10 s = Q ++ [z]) : linesD s = if z = [] then Q else Q ++ [z] := by
  unfold linesD
  rw [h]
  by_cases e : z = []
  · subst e; simp
  · rw [if_neg (by simp [e]), if_neg e]
theorem empty_of {z : ByteArray} (h : z.data.toList = []) : z = ⟨#[]⟩ := list_inj (b := ⟨#[]⟩) (by rw [h])
theorem not_empty {z : ByteArray} (h : ¬ z = ⟨#[]⟩) : z.toList.isEmpty = false := by
  cases e : z.toList.isEmpty with
  | false => rfl
  | true => exact absurd (empty_of (by rw [← Lib.toList_data]; exact List.isEmpty_iff.1 e)) h

set_option maxHeartbeats 2000000 in
set_option maxRecDepth 100000 in
theorem rtlines_any (s : ByteArray) (w : World) (hs : s.size ≤ 2000000) :
    Calls Tryz.prog 8 #[.string s] w fun e w' => ∃ ao cap ls, e = .returned (.slice ao ls.length cap) ∧ ls.length ≤ cap ∧ SLst w' ao ls ∧ ls.map (·.data.toList) = linesD s.data.toList ∧ (∀ p ∈ ls, p.size ≤ s.size) ∧ ls.length ≤ s.size + 1 ∧ Below w.heap.size w w' := by
  have HRL := hid (rpieces_upto s.size s 10 w (Nat.le_refl _) hs)
  rw [show (((10 : UInt8).toNat : Nat) : Int) = 10 from rfl] at HRL
  go_enter Tryz.func8, Tryz.ntmps8
  go_wp2_with fail
  refine HRL.out.mono ?_
  rintro e w1 ⟨lv, L, rfl, hown, hpc, hszs, hlen, hb1⟩
  have hL1 : 1 ≤ L.length := by have := List.length_pos_iff.2 (piecesL_ne 10 s.data.toList); rw [← hpc, List.length_map] at this; exact this
  obtain ⟨Q, z, hqz⟩ := last_of (l := L) (by omega)
  obtain ⟨q, hq⟩ : ∃ q, Q.length = q := ⟨_, rfl⟩
  have hLq : L.length = q + 1 := by rw [hqz, List.length_append, hq]; rfl
  obtain ⟨lb, lc, hlv, hlb1, hlb2⟩ := World.ownsRow.form hown (by omega)
  obtain ⟨ao, c, e2, hle, hsr⟩ := SLst.of hown
  rw [e2] at hlv
  cases hlv
  subst e2
  have cz : w1.cell? ⟨lb, q, none⟩ = some (.string z) := by
    obtain ⟨b, off, e3, h3⟩ := hsr (by omega)
    cases e3
    have := h3 q (by omega)
    rw [Nat.zero_add] at this
    rw [this, hqz, ← hq]
    simp [sF]
  have HPC : Hid (piecesL 10 s.data.toList = Q.map (·.data.toList) ++ [z.data.toList]) := hid (by rw [← hpc, hqz]; simp)
  have HSR := hid hsr
  have HSZ := hid hszs
  have HB := hid hb1
  rw [hLq] at hle hlen
  have HLQ := hid hLq
  have HQZ := hid hqz
  have HQ := hid hq
  rw [hLq]
  clear hsr hszs hb1 hown hpc HRL hL1 hlb1 hlb2 hLq hqz hq
  have q0 : (0 : Int) ≤ (q : Int) := by omega
  have q1 : (q : Int) < (q : Int) + 1 := by omega
  have q2 : (q : Int) ≤ (lc : Int) := by omega
  have q3 : IntKind.i64.wrap ((q : Int) + 1 - 1) = (q : Int) := by rw [show (q : Int) + 1 - 1 = (q : Int) from by omega]; exact IntWalk.i64_in _ (by omega)
  by_cases hz : z = ⟨#[]⟩
  · subst hz
    go_wp2_with fail
    go_ret
    refine ⟨some ⟨lb, 0, none⟩, lc, Q, by rw [HQ.out]; rfl, by rw [HQ.out]; omega, fun h0 => ?_, ?_, fun p hp => HSZ.out p (by rw [HQZ.out]; exact List.mem_append_left _ hp), by rw [HQ.out]; omega, HB.out⟩
    · obtain ⟨b, off, e3, h3⟩ := HSR.out (by rw [HLQ.out]; omega)
      refine ⟨b, off, e3, fun i hi => ?_⟩
      have h4 := h3 i (by rw [HLQ.out, ← HQ.out]; omega)
      rw [h4, HQZ.out]
      unfold sF
      simp [List.getElem?_append_left hi]
    · rw [linesD_of HPC.out, if_pos rfl]
  · have hzb : z.toList.isEmpty = false := not_empty hz
    go_wp2_with fail
    go_ret
    refine ⟨some ⟨lb, 0, none⟩, lc, L, by rw [HLQ.out]; rfl, by rw [HLQ.out]; omega, HSR.out, ?_, HSZ.out, by rw [HLQ.out]; omega, HB.out⟩
    rw [linesD_of HPC.out, if_neg (fun h => hz (empty_of h)), HQZ.out]
    simp

theorem OwnS.base {w : World} {b b' : Nat} {v : Value} {ps : List ByteArray} (h : OwnS w b v ps) (hb : b' ≤ b) : OwnS w b' v ps := by
  refine ⟨h.1, ?_⟩
  rcases h.2 with h1 | ⟨g, cap, cur, h1, h2, h3⟩
  · exact .inl h1
  · exact .inr ⟨g, cap, cur, h1, Nat.le_trans hb h2, h3⟩
/-- The pieces that aren't empty. -/
def fulls (ps : List ByteArray) : List ByteArray := ps.filter fun p => !p.data.toList.isEmpty
theorem fulls_words {ps : List ByteArray} {l : List UInt8} (h : ps.map (·.data.toList) = piecesL 32 l) : (fulls ps).map (·.data.toList) = wordsD l := by
  unfold fulls wordsD
  rw [← h, List.filter_map]
  rfl
theorem take_snoc {ps : List ByteArray} {t : Nat} (h : t < ps.length) : ps.take (t + 1) = ps.take t ++ [sF ps t] := by
  rw [List.take_add_one]
  simp [sF, h]
theorem fulls_next {ps : List ByteArray} {t : Nat} (h : t < ps.length) : fulls (ps.take (t + 1)) = if (sF ps t).data.toList = [] then fulls (ps.take t) else fulls (ps.take t) ++ [sF ps t] := by
  rw [take_snoc h]
  unfold fulls
  rw [List.filter_append]
  by_cases e : (sF ps t).data.toList = []
  · rw [if_pos e, List.filter_cons_of_neg (by rw [e]; simp), List.filter_nil, List.append_nil]
  · rw [if_neg e, List.filter_cons_of_pos (by simpa using e), List.filter_nil]
theorem fulls_len (ps : List ByteArray) (t : Nat) : (fulls (ps.take t)).length ≤ t := Nat.le_trans (List.length_filter_le _ _) (by rw [List.length_take]; omega)

set_option maxHeartbeats 2000000 in
set_option maxRecDepth 100000 in
theorem rwords_any (s : ByteArray) (w : World) (hs : s.size ≤ 2000000) :
    Calls Tryz.prog 10 #[.string s] w fun e w' => ∃ v ps, e = .returned v ∧ OwnS w' w.heap.size v ps ∧ ps.map (·.data.toList) = wordsD s.data.toList ∧ (∀ p ∈ ps, p.size ≤ s.size ∧ p.data.toList ≠ []) ∧ ps.length ≤ s.size + 1 ∧ Below w.heap.size w w' := by
  have HRL := hid (rpieces_upto s.size s 32 w (Nat.le_refl _) hs)
  rw [show (((32 : UInt8).toNat : Nat) : Int) = 32 from rfl] at HRL
  obtain ⟨i0, hi, hz0, hz1, hz2⟩ := info_parts Tryz.infoS
  have HI := hid (And.intro hi (And.intro hz0 (And.intro hz1 hz2)))
  clear hi hz0 hz1 hz2
  go_enter Tryz.func10, Tryz.ntmps10
  go_wp2_with fail
  refine HRL.out.mono ?_
  rintro e w1 ⟨lv, L, rfl, hown, hpc, hszs, hlen, hb1⟩
  obtain ⟨ao, c, rfl, hle, hsr⟩ := SLst.of hown
  have HPC := hid hpc
  have HSR := hid hsr
  have HSZ := hid hszs
  have HB := hid hb1
  obtain ⟨n, hn⟩ : ∃ n, L.length = n := ⟨_, rfl⟩
  have HN := hid hn
  rw [hn] at hle hlen
  rw [hn]
  clear hown hpc hszs hsr hb1 HRL hn
  obtain ⟨B, hB⟩ : ∃ B, w1.heap.size = B := ⟨_, rfl⟩
  have HBE := hid hB
  clear hB
  go_wp2_with fail
  go_loopg [3, 5] n (fun q v i wr => ∃ (t : Nat) (u : Value), t ≤ n ∧ q = n - t ∧ v = u ∧ i = .int .i64 (t : Int) ∧ Hid (OwnS wr B u (fulls (L.take t))) ∧ Hid (Below B w1 wr))
  case atStart => exact ⟨0, _, by omega, rfl, rfl, rfl, hid (World.ownsRow_nil w1 B 9 1), hid (Below.refl _ _)⟩
  case round =>
    obtain ⟨t, u, ht, rfl, hu, rfl, HO, HBw⟩ := hrel
    obtain rfl := hu.symm
    by_cases hlt : t < n
    · obtain ⟨bb, off, rfl, hr⟩ := (HSR.out.kept (by rw [HBE.out]; exact HBw.out)) (by rw [HN.out]; omega)
      have c1 := hr t (by rw [HN.out]; exact hlt)
      have HNX := hid (fulls_next (ps := L) (t := t) (by rw [HN.out]; exact hlt))
      have hfl := fulls_len L t
      obtain ⟨p, hp⟩ : ∃ p, sF L t = p := ⟨_, rfl⟩
      rw [hp] at c1 HNX
      obtain ⟨k, hk⟩ : ∃ k, (fulls (L.take t)).length = k := ⟨_, rfl⟩
      rw [hk] at hfl
      have HOn : Hid (wr.ownsRow B 9 1 u k ((fulls (L.take t)).map Value.string)) := hid (by have := HO.out; unfold OwnS at this; rw [hk] at this; exact this)
      have HK := hid hk
      have hsz : B ≤ wr.heap.size := by have h1 := HBw.out.size; have h2 := HBE.out; omega
      have t0 : (0 : Int) ≤ (t : Int) := by omega
      have t1 : (t : Int) < (n : Int) := by omega
      clear hr hp hk
      by_cases hz : p = ⟨#[]⟩
      · subst hz
        go_wp2_with fail
        go_roundg (n - (t + 1))
        case measure => go_light; omega
        case rel => exact ⟨t + 1, _, by omega, rfl, rfl, by go_num, hid (by first | (rw [HNX.out, if_pos rfl]; exact HO.out) | (rw [HNX.out]; exact HO.out)), HBw⟩
      · have hzb : p.toList.isEmpty = false := not_empty hz
        have hzl : ¬ p.data.toList = [] := fun h => hz (empty_of h)
        go_wp2_with (at_builtin; refine wpList_append_lies _ rfl _ _ 24 rfl B 9 i0 (.string ByteArray.empty) 1 16 Tryz.underlying24 HI.out.1 HI.out.2.1 HI.out.2.2.1 HI.out.2.2.2 rfl (by decide) _ _ _ rfl (World.ownsRow.alloc HOn.out _) ⟨wr.heap.size, 0, none⟩ 1 1 [.string p] rfl rfl (snews wr _ _) (sone _) (by omega) (by unfold maxLen; omega) (by omega) (by simp; omega) (wr.heap.size + 1) (by simp) ?_)
        intro g2 c2 w6 hown2 hgrow2 hat2 hlt2
        have HO6 : Hid (OwnS w6 B (.slice (some ⟨g2, 0, none⟩) (k + 1) c2) (fulls (L.take t) ++ [p])) := hid (by unfold OwnS; rw [List.length_append, HK.out, List.map_append]; exact hown2)
        have HB6 : Hid (Below B w1 w6) := hid ((HBw.out.alloc hsz _).grown hgrow2 (by simp; omega) (by intro k hk; exact (HOn.out.lt k hk).1))
        clear hown2 hgrow2 hat2 hlt2
        go_wp2_with fail
        go_roundg (n - (t + 1))
        case measure => go_light; omega
        case rel => exact ⟨t + 1, _, by omega, rfl, rfl, by go_num, hid (by rw [HNX.out, if_neg hzl]; exact HO6.out), HB6⟩
    · have e : n = t := by omega
      have t1 : ¬ ((t : Int) < (n : Int)) := by omega
      go_wp2_with fail
      go_ret
      have e2 : L.take t = L := by rw [← e, ← HN.out]; exact List.take_length
      refine ⟨u, rfl, fulls L, by have := HO.out; rw [e2] at this; exact this.base (by rw [← HBE.out]; exact HB.out.size), fulls_words HPC.out, fun p hp => ⟨HSZ.out p (List.mem_filter.1 hp).1, fun h => by have := (List.mem_filter.1 hp).2; rw [h] at this; simp at this⟩, Nat.le_trans (List.length_filter_le _ L) (by rw [HN.out]; exact hlen), HB.out.trans (HBw.out.mono (by rw [← HBE.out]; exact HB.out.size))⟩

end Go.Proofs.YtiohbjnnfkadnaaGreatDoor

/-
  Contracts of tallyref's number, numbers, said and wrong; they make new blocks and write nothing that was there.
-/
namespace Go.Proofs.YtiohbjnnfkadnaaGreatDoor
open Go.RowKit Go.PlainAid
set_option linter.unusedVariables false
attribute [local go_sem ↓] Go.wp_at_zero Go.wp_at_succ

/-- What is read of t bytes, in 64 bits. -/
def nvD (s : ByteArray) : Nat → Int
  | 0 => 0
  | t + 1 => IntKind.u64.wrap (IntKind.u64.wrap (IntKind.u64.wrap (nvD s t * 10) + bt s t) - 48)
theorem wrap_rng (x : Int) : 0 ≤ IntKind.u64.wrap x ∧ IntKind.u64.wrap x ≤ 18446744073709551615 := by rw [IntKind.wrap_u64]; omega
theorem nvD_rng (s : ByteArray) (t : Nat) : 0 ≤ nvD s t ∧ nvD s t ≤ 18446744073709551615 := by
  cases t with
  | zero => exact ⟨by unfold nvD; omega, by unfold nvD; omega⟩
  | succ t => exact wrap_rng _
theorem bt_take {s : ByteArray} {t : Nat} (h : t < s.size) : ∃ d : UInt8, s.data.toList.take (t + 1) = s.data.toList.take t ++ [d] ∧ bt s t = (d.toNat : Int) ∧ d ∈ s.data.toList := by
  obtain ⟨d, h1, h2, _⟩ := byte_bt h
  exact ⟨d, by rw [List.take_add_one, h1]; rfl, h2, List.mem_of_getElem? h1⟩
/-- Of a numeral it is its number. -/
theorem nvD_num {s : ByteArray} {m : Nat} (hm : m ≤ 9223372036854775807) (hs : s.data.toList = Lib.decDigits m) (t : Nat) (ht : t ≤ s.size) : nvD s t = (valD (s.data.toList.take t) : Int) := by
  induction t with
  | zero => simp [nvD, valD]
  | succ t ih =>
    obtain ⟨d, h1, h2, h3⟩ := bt_take (s := s) (t := t) (by omega)
    have hd := dec_digits m d (by rw [← hs]; exact h3)
    have hle := valD_take_le s.data.toList (t + 1)
    rw [h1, valD_snoc] at hle
    have hv : valD s.data.toList = m := by rw [hs, valD_dec]
    rw [hv] at hle
    rw [nvD, ih (by omega), h1, valD_snoc, h2, IntKind.wrap_u64, IntKind.wrap_u64, IntKind.wrap_u64]
    omega
theorem dec_len {m : Nat} (hm : m ≤ 18446744073709551615) : (Lib.decDigits m).length ≤ 20 := by
  rw [Lib.decDigits_length]
  by_cases h : m < 10
  · rw [Lib.nDigits_small h]; omega
  · have := Lib.numDigits_eq m (by omega) (by omega)
    split at this <;> omega

/-- What number tells. -/
def numOut (s : ByteArray) (w : World) (e : Ending) (w' : World) : Prop := ∃ (z : Nat) (b : Bool), e = .returned (.tuple #[.int .u64 (z : Int), .bool b]) ∧ (b = true → IsNum s.data.toList z) ∧ ((∃ m, IsNum s.data.toList m) → b = true) ∧ z ≤ 18446744073709551615 ∧ Below w.heap.size w w'
theorem num_no {s : ByteArray} {w w' : World} {z : Nat} (hz : z < 18446744073709551616) (hv : ∀ m, IsNum s.data.toList m → (z : Int) = (m : Int)) (hn : ¬ (Lib.decDigits z = s.data.toList ∧ z ≤ 9223372036854775807)) (hb : Below w.heap.size w w') : numOut s w (.returned (.tuple #[.int .u64 (z : Int), .bool false])) w' :=
  ⟨z, false, rfl, (fun h => by cases h), fun ⟨m, hm⟩ => absurd (by have h1 := hv m hm; rw [show z = m from by omega]; exact ⟨hm.2.symm, hm.1⟩) hn, by omega, hb⟩
theorem num_yes {s : ByteArray} {w w' : World} {z : Nat} (h : Lib.decDigits z = s.data.toList) (hz : z ≤ 9223372036854775807) (hb : Below w.heap.size w w') : numOut s w (.returned (.tuple #[.int .u64 (z : Int), .bool true])) w' :=
  ⟨z, true, rfl, fun _ => ⟨hz, h.symm⟩, fun _ => rfl, by omega, hb⟩

set_option maxHeartbeats 2000000 in
set_option maxRecDepth 100000 in
theorem rnumber_any (s : ByteArray) (w : World) (hs : s.size ≤ 2000000) (ht : PTab w) :
    Calls Tryz.prog 82 #[.string s] w fun e w' => numOut s w e w' := by
  have hbt := get_bt s
  obtain ⟨N, hN⟩ : ∃ N, min s.size 20 = N := ⟨_, rfl⟩
  have HT := hid ht
  clear ht
  go_enter Tryz.func82, Tryz.ntmps82
  go_wp2_with fail
  go_loopg [4, 5] N (fun q v i wr => ∃ t : Nat, t ≤ N ∧ q = N - t ∧ v = .int .u64 (nvD s t) ∧ i = .int .i64 (t : Int) ∧ wr = w)
  case atStart => exact ⟨0, by omega, rfl, rfl, rfl, rfl⟩
  case round =>
    obtain ⟨t, htN, rfl, rfl, rfl, hw⟩ := hrel
    obtain rfl := hw.symm
    have hrg := nvD_rng s t
    by_cases hlt : t < N
    · have hls : t < s.size := by omega
      have t0 : (0 : Int) ≤ (t : Int) := by omega
      have t1 : (t : Int) < (s.size : Int) := by omega
      have t2 : (t : Int) < 20 := by omega
      have bx : ((s[t]'hls).toNat : Int) = bt s t := hbt t hls
      have HNX : Hid (nvD s (t + 1) = IntKind.u64.wrap (IntKind.u64.wrap (IntKind.u64.wrap (nvD s t * 10) + IntKind.u64.wrap (bt s t)) - 48)) := hid (by
        have h1 : (s[t]'hls).toNat < 256 := (s[t]'hls).toNat_lt
        rw [show IntKind.u64.wrap (bt s t) = bt s t from by rw [IntKind.wrap_u64]; omega]
        rfl)
      obtain ⟨y, hy⟩ : ∃ y, nvD s t = y := ⟨_, rfl⟩
      rw [hy] at HNX hrg
      rw [hy]
      clear hy hbt
      go_wp2_with fail
      go_roundg (N - (t + 1))
      case measure => go_light; omega
      case rel => exact ⟨t + 1, by omega, rfl, by rw [HNX.out], by go_num, rfl⟩
    · have e : t = N := by omega
      have HV : Hid (∀ m, IsNum s.data.toList m → nvD s t = (m : Int)) := hid (fun m hm => by
        have hl := dec_len (m := m) (by have := hm.1; omega)
        rw [← hm.2, ← size_list] at hl
        rw [nvD_num hm.1 hm.2 t (by omega), show t = s.data.toList.length from by rw [← size_list]; omega, List.take_length, hm.2, valD_dec])
      obtain ⟨z, hz⟩ : ∃ z : Nat, nvD s t = (z : Int) := ⟨(nvD s t).toNat, by omega⟩
      rw [hz] at HV hrg
      rw [hz]
      have hz64 : z < 18446744073709551616 := by omega
      have HF := hid (fmt_any z w hz64 HT.out)
      obtain ⟨T, hT⟩ : ∃ T : ByteArray, T = ⟨(Lib.decDigits z).toArray⟩ := ⟨_, rfl⟩
      rw [← hT] at HF
      have hTl : T.data.toList = Lib.decDigits z := by rw [hT]
      have HTL := hid hTl
      have hcond : (¬ (t : Int) < (s.size : Int)) ∨ ((t : Int) < (s.size : Int) ∧ ¬ (t : Int) < 20) := by omega
      clear hz hbt hT hTl hrg
      rcases hcond with t1 | ⟨t1, t2⟩
      · by_cases heq : Lib.decDigits z = s.data.toList
        · have hb0 : (T.toList == s.toList) = true := by rw [beq_iff_eq, Lib.toList_data, Lib.toList_data, HTL.out, heq]
          by_cases hz9 : (z : Int) ≤ 9223372036854775807
          · have hz8 : decide ((z : Int) ≤ 9223372036854775807) = true := decide_eq_true hz9
            have HY := hid (fun W (hb : Below w.heap.size w W) => num_yes heq (by omega) hb)
            clear heq
            go_wp2_with (go_at_call 83; refine (HF.out).mono ?_; rintro e w' ⟨rfl, hb⟩; have HB := hid hb; clear hb)
            go_ret2
            exact HY.out _ HB.out
          · have hz8 : decide ((z : Int) ≤ 9223372036854775807) = false := decide_eq_false hz9
            have HY := hid (fun W (hb : Below w.heap.size w W) => num_no hz64 HV.out (fun h => hz9 (by have := h.2; omega)) hb)
            clear heq
            go_wp2_with (go_at_call 83; refine (HF.out).mono ?_; rintro e w' ⟨rfl, hb⟩; have HB := hid hb; clear hb)
            go_ret2
            exact HY.out _ HB.out
        · have hb0 : (T.toList == s.toList) = false := beq_eq_false_iff_ne.2 (by rw [Lib.toList_data, Lib.toList_data, HTL.out]; exact heq)
          have HY := hid (fun W (hb : Below w.heap.size w W) => num_no hz64 HV.out (fun h => heq h.1) hb)
          clear heq
          go_wp2_with (go_at_call 83; refine (HF.out).mono ?_; rintro e w' ⟨rfl, hb⟩; have HB := hid hb; clear hb)
          go_ret2
          exact HY.out _ HB.out
      · by_cases heq : Lib.decDigits z = s.data.toList
        · have hb0 : (T.toList == s.toList) = true := by rw [beq_iff_eq, Lib.toList_data, Lib.toList_data, HTL.out, heq]
          by_cases hz9 : (z : Int) ≤ 9223372036854775807
          · have hz8 : decide ((z : Int) ≤ 9223372036854775807) = true := decide_eq_true hz9
            have HY := hid (fun W (hb : Below w.heap.size w W) => num_yes heq (by omega) hb)
            clear heq
            go_wp2_with (go_at_call 83; refine (HF.out).mono ?_; rintro e w' ⟨rfl, hb⟩; have HB := hid hb; clear hb)
            go_ret2
            exact HY.out _ HB.out
          · have hz8 : decide ((z : Int) ≤ 9223372036854775807) = false := decide_eq_false hz9
            have HY := hid (fun W (hb : Below w.heap.size w W) => num_no hz64 HV.out (fun h => hz9 (by have := h.2; omega)) hb)
            clear heq
            go_wp2_with (go_at_call 83; refine (HF.out).mono ?_; rintro e w' ⟨rfl, hb⟩; have HB := hid hb; clear hb)
            go_ret2
            exact HY.out _ HB.out
        · have hb0 : (T.toList == s.toList) = false := beq_eq_false_iff_ne.2 (by rw [Lib.toList_data, Lib.toList_data, HTL.out]; exact heq)
          have HY := hid (fun W (hb : Below w.heap.size w W) => num_no hz64 HV.out (fun h => heq h.1) hb)
          clear heq
          go_wp2_with (go_at_call 83; refine (HF.out).mono ?_; rintro e w' ⟨rfl, hb⟩; have HB := hid hb; clear hb)
          go_ret2
          exact HY.out _ HB.out

/-- What numbers tells. -/
def numsOut (ps : List ByteArray) (w : World) (e : Ending) (w' : World) : Prop :=
  (e = .returned (.tuple #[.slice none 0 0, .bool false]) ∧ (¬ ∃ l, IsNums (ps.map (·.data.toList)) l) ∧ Below w.heap.size w w') ∨
  (∃ v l, e = .returned (.tuple #[v, .bool true]) ∧ IsNums (ps.map (·.data.toList)) l ∧ Own w' w.heap.size v l.length (fOf l) ∧ Below w.heap.size w w')
theorem sF_mem {ps : List ByteArray} {t : Nat} (h : t < ps.length) : sF ps t ∈ ps := by
  unfold sF
  rw [List.getElem?_eq_getElem h]
  exact List.getElem_mem h
theorem Tryz.infoDn : (Tryz.prog.info? 60).map (fun i => (i.zero, i.size, i.bytes)) = some (some (.int .u64 0), 1, 8) := by kernel_rfl
theorem dkNews (w : World) (x : Int) (t : TypeId) : ∀ j u, [Value.int .u64 x][j]? = some u → (w.alloc (.cells #[.int .u64 x] t)).cell? ((⟨w.heap.size, 0, none⟩ : Addr).add j) = some u := by
  intro j u hj
  match j, hj with
  | 0, hj => simp at hj; subst hj; simp [Addr.add]
theorem dkOne (x : Int) : ∀ u ∈ [Value.int .u64 x], u.oneCell' = true := by intro u hu; simp at hu; subst hu; rfl

theorem dkSnoc {w wr w6 : World} {E g2 c2 t : Nat} {v : Value} {z : Int} {f : Nat → Int} {o : Obj} (hb : Below E w wr) (hs : E ≤ wr.heap.size) (hown : Own wr E v t f) (hz : f t = z)
    (h6 : w6.ownsRow E 60 1 (.slice (some ⟨g2, 0, none⟩) (t + 1) c2) (t + 1) (cellsOf t f ++ [.int .u64 z])) (hg : (wr.alloc o).grownBy w6 v.ownBlock) : Own w6 E (.slice (some ⟨g2, 0, none⟩) (t + 1) c2) (t + 1) f ∧ Below E w w6 := by
  refine ⟨?_, (hb.alloc hs o).grown hg (by simp; omega) fun k e => (World.ownsRow.lt hown k e).1⟩
  have e : cellsOf (t + 1) f = cellsOf t f ++ [.int .u64 z] := by
    rw [cellsOf_snoc]
    refine cellsOf_congr fun j hj => ?_
    unfold catF
    by_cases e : j < t
    · rw [if_pos e]
    · rw [if_neg e, show j = t from by omega, hz]
  unfold Own
  rw [e]
  exact h6

set_option maxHeartbeats 4000000 in
set_option maxRecDepth 100000 in
theorem rnumbers_any (ps : List ByteArray) (ao : Option Addr) (n c : Nat) (w : World) (hn : ps.length = n) (hn2 : n ≤ 2000000) (hz : ∀ p ∈ ps, p.size ≤ 2000000) (hr : SLst w ao ps) (ht : PTab w) :
    Calls Tryz.prog 44 #[.slice ao n c] w fun e w' => numsOut ps w e w' := by
  obtain ⟨i0, hi, hz0, hz1, hz2⟩ := info_parts Tryz.infoDn
  have HI := hid (And.intro hi (And.intro hz0 (And.intro hz1 hz2)))
  have HN := hid hn
  have HR := hid hr
  have HT := hid ht
  have HZ := hid hz
  clear hi hz0 hz1 hz2 hn hr ht hz
  obtain ⟨B, hB⟩ : ∃ B, w.heap.size = B := ⟨_, rfl⟩
  have HBE := hid hB
  clear hB
  go_enter Tryz.func44, Tryz.ntmps44
  go_wp2_with fail
  go_loopg [4, 5] n (fun q v i wr => ∃ (t : Nat) (u : Value) (l : List Nat), t ≤ n ∧ q = n - t ∧ v = u ∧ i = .int .i64 (t : Int) ∧ Hid (IsNums ((ps.take t).map (·.data.toList)) l) ∧ Hid (Own wr B u t (fOf l)) ∧ Hid (Below B w wr))
  case atStart => exact ⟨0, _, [], by omega, rfl, rfl, rfl, hid (by simpa using IsNums.nil), hid (Own.nil _ _ _), hid (Below.refl _ _)⟩
  case round =>
    obtain ⟨t, u, l, htn, rfl, hu, rfl, HL, HO, HB⟩ := hrel
    obtain rfl := hu.symm
    have HBw : Hid (Below w.heap.size w wr) := hid (by rw [HBE.out]; exact HB.out)
    by_cases hlt : t < n
    · obtain ⟨bb, off, rfl, hr⟩ := (HR.out.kept HBw.out) (by rw [HN.out]; omega)
      have c1 := hr t (by rw [HN.out]; exact hlt)
      have hlen : l.length = t := by rw [HL.out.len, List.length_map, List.length_take, HN.out]; omega
      have HLEN := hid hlen
      have HTK := hid (take_snoc (ps := ps) (t := t) (by rw [HN.out]; exact hlt))
      have HMEM := hid (sF_mem (ps := ps) (t := t) (by rw [HN.out]; exact hlt))
      obtain ⟨p, hp⟩ : ∃ p, sF ps t = p := ⟨_, rfl⟩
      rw [hp] at c1 HTK HMEM
      have hps := HZ.out p HMEM.out
      have HNU := hid (rnumber_any p wr hps (HT.out.kept HBw.out))
      have hsz : B ≤ wr.heap.size := by have h1 := HB.out.size; have h2 := HBE.out; omega
      have t0 : (0 : Int) ≤ (t : Int) := by omega
      have t1 : (t : Int) < (n : Int) := by omega
      clear hr hp hlen
      go_wp2_with fail
      refine (HNU.out).mono ?_
      rintro e w2 ⟨z, b, rfl, h1, h2, hz64, hb⟩
      have HB2 := hid (HB.out.trans (hb.mono hsz))
      have hsz2 : B ≤ w2.heap.size := Nat.le_trans hsz hb.size
      have HO2 := hid (HO.out.kept hb)
      have H12 := hid (And.intro h1 h2)
      clear hb h1 h2 c1
      cases b with
      | false =>
        have HF : Hid (¬ ∃ l, IsNums (ps.map (·.data.toList)) l) := hid (fun ⟨l', hl'⟩ => by
          have := H12.out.2 (hl'.at (List.mem_map.2 ⟨p, HMEM.out, rfl⟩))
          cases this)
        clear H12
        go_wp2_with fail
        go_ret2
        exact .inl ⟨rfl, HF.out, by rw [HBE.out]; exact HB2.out⟩
      | true =>
        have HZN := hid (H12.out.1 rfl)
        have HO3 : Hid (Own w2 B u t (fOf (l ++ [z]))) := hid (HO2.out.congr fun j hj => fOf_snoc_lt l z (by rw [HLEN.out]; exact hj))
        have HFZ : Hid (fOf (l ++ [z]) t = (z : Int)) := hid (by have := fOf_snoc l z; rw [HLEN.out] at this; exact this)
        have HL2 : Hid (IsNums ((ps.take (t + 1)).map (·.data.toList)) (l ++ [z])) := hid (by rw [HTK.out, List.map_append]; exact HL.out.snoc HZN.out)
        clear H12 HO2
        go_wp2_with (at_builtin; refine wpList_append_lies _ rfl _ _ 55 rfl B 60 i0 (.int .u64 0) 1 8 Tryz.underlying55 HI.out.1 HI.out.2.1 HI.out.2.2.1 HI.out.2.2.2 rfl (by decide) _ _ _ rfl (World.ownsRow.alloc HO3.out _) ⟨w2.heap.size, 0, none⟩ 1 1 [.int .u64 (z : Int)] rfl rfl (dkNews w2 _ _) (dkOne _) (by omega) (by unfold maxLen; omega) (by omega) (by simp; omega) (w2.heap.size + 1) (by simp) ?_)
        intro g2 c2 w6 hown2 hgrow2 hat2 hlt2
        have HS6 := hid (dkSnoc HB2.out hsz2 HO3.out HFZ.out hown2 hgrow2)
        clear hown2 hgrow2 hat2 hlt2
        go_wp2_with fail
        go_roundg (n - (t + 1))
        case measure => go_light; omega
        case rel => exact ⟨t + 1, _, l ++ [z], by omega, rfl, rfl, by go_num, HL2, hid HS6.out.1, hid HS6.out.2⟩
    · have e : n = t := by omega
      have t1 : ¬ ((t : Int) < (n : Int)) := by omega
      go_wp2_with fail
      go_ret2
      have e2 : ps.take t = ps := by rw [← e, ← HN.out]; exact List.take_length
      have hl := HL.out
      rw [e2] at hl
      have hlen : l.length = t := by rw [hl.len, List.length_map, HN.out]; exact e
      exact .inr ⟨_, l, rfl, hl, by rw [hlen, HBE.out]; exact HO.out, HBw.out⟩

end Go.Proofs.YtiohbjnnfkadnaaGreatDoor

/-
  Contracts of strconv.ParseUint (base 10, 63 bits) and of desk's readNumber; they make new blocks and write nothing that was there.
-/
namespace Go.Proofs.YtiohbjnnfkadnaaGreatDoor
open Go.RowKit Go.PlainAid
set_option linter.unusedVariables false
attribute [local go_sem ↓] Go.wp_at_zero Go.wp_at_succ

/-! ### plain: what is read is what is told -/

def valF (acc : Nat) (l : List UInt8) : Nat := l.foldl (fun v d => v * 10 + (d.toNat - 48)) acc
theorem valF_le : ∀ (l : List UInt8) (acc : Nat), acc ≤ valF acc l
  | [], acc => Nat.le_refl _
  | d :: r, acc => by
    have h := valF_le r (acc * 10 + (d.toNat - 48))
    show acc ≤ valF (acc * 10 + (d.toNat - 48)) r
    omega
theorem pu_ok : ∀ (l : List UInt8) (acc u : Nat), acc ≤ 9223372036854775807 → Lib.parseUintM 9223372036854775807 acc l = .ok u → (∀ d ∈ l, 48 ≤ d.toNat ∧ d.toNat ≤ 57) ∧ u = valF acc l ∧ u ≤ 9223372036854775807
  | [], acc, u, ha, h => by
    rw [Lib.parseUintM] at h
    cases h
    exact ⟨fun d hd => (by cases hd), rfl, ha⟩
  | c :: r, acc, u, ha, h => by
    rw [Lib.parseUintM] at h
    by_cases h1 : 48 ≤ c.toNat ∧ c.toNat ≤ 57
    · rw [if_pos h1] at h
      by_cases h2 : 1844674407370955162 ≤ acc
      · rw [if_pos h2] at h; cases h
      · rw [if_neg h2] at h
        by_cases h3 : 9223372036854775807 < acc * 10 + (c.toNat - 48)
        · rw [if_pos h3] at h; cases h
        · rw [if_neg h3] at h
          obtain ⟨g1, g2, g3⟩ := pu_ok r _ u (by omega) h
          refine ⟨fun d hd => ?_, g2, g3⟩
          rcases List.mem_cons.1 hd with e | e
          · rw [e]; exact h1
          · exact g1 d e
    · rw [if_neg h1] at h; cases h
theorem pu_of : ∀ (l : List UInt8) (acc : Nat), (∀ d ∈ l, 48 ≤ d.toNat ∧ d.toNat ≤ 57) → valF acc l ≤ 9223372036854775807 → Lib.parseUintM 9223372036854775807 acc l = .ok (valF acc l)
  | [], acc, _, _ => by rw [Lib.parseUintM]; rfl
  | c :: r, acc, hd, hv => by
    have h1 := hd c (List.mem_cons_self ..)
    have hv' : valF (acc * 10 + (c.toNat - 48)) r ≤ 9223372036854775807 := hv
    have h4 := valF_le r (acc * 10 + (c.toNat - 48))
    rw [Lib.parseUintM, if_pos h1, if_neg (by omega), if_neg (by omega), pu_of r _ (fun d h => hd d (List.mem_cons_of_mem _ h)) hv']
    rfl
theorem head_app {l r : List UInt8} (h : l ≠ []) : (l ++ r).head? = l.head? := by
  cases l with
  | nil => exact absurd rfl h
  | cons a t => rfl
theorem snoc_of {l : List UInt8} (h : l ≠ []) : ∃ r d, l = r ++ [d] := ⟨l.dropLast, l.getLast h, (List.dropLast_concat_getLast h).symm⟩
theorem valD_pos : ∀ {l : List UInt8}, (∀ d ∈ l, 48 ≤ d.toNat ∧ d.toNat ≤ 57) → l ≠ [] → l.head? ≠ some 48 → 1 ≤ valD l
  | [], _, h, _ => absurd rfl h
  | c :: r, hd, _, h => by
    have h1 := hd c (List.mem_cons_self ..)
    have h2 : c.toNat ≠ 48 := fun e => h (by rw [List.head?_cons]; congr 1; exact UInt8.toNat_inj.1 e)
    have h3 : valD (c :: r) = valF (0 * 10 + (c.toNat - 48)) r := rfl
    have h4 := valF_le r (0 * 10 + (c.toNat - 48))
    omega
/-- Digits without noughts ahead are what tells their number. -/
theorem dec_back : ∀ (n : Nat) (l : List UInt8), l.length = n → l ≠ [] → (∀ d ∈ l, 48 ≤ d.toNat ∧ d.toNat ≤ 57) → (1 < l.length → l.head? ≠ some 48) → Lib.decDigits (valD l) = l
  | 0, l, hn, h0, _, _ => absurd (List.length_eq_zero_iff.1 hn) h0
  | n + 1, l, hn, h0, hd, hz => by
    obtain ⟨r, d, rfl⟩ := snoc_of h0
    have hd1 := hd d (by simp)
    have hb : UInt8.ofNat (48 + (d.toNat - 48)) = d := by rw [show 48 + (d.toNat - 48) = d.toNat from by omega]; exact UInt8.ofNat_toNat
    by_cases hr : r = []
    · subst hr
      have : valD ([] ++ [d]) = d.toNat - 48 := by simp [valD]
      rw [this, Lib.decDigits_one (by omega), hb]
      rfl
    · have hr1 : 1 < (r ++ [d]).length := by
        have := List.length_pos_iff.2 hr
        simp; omega
      have hh : r.head? ≠ some 48 := by
        have := hz hr1
        rwa [head_app hr] at this
      have hp := valD_pos (fun x hx => hd x (List.mem_append_left _ hx)) hr hh
      have ih := dec_back n r (by simp at hn; exact hn) hr (fun x hx => hd x (List.mem_append_left _ hx)) (fun _ => hh)
      rw [valD_snoc, decDigits_step (by omega), show (valD r * 10 + (d.toNat - 48)) / 10 = valD r from by omega, show (valD r * 10 + (d.toNat - 48)) % 10 = d.toNat - 48 from by omega, ih, hb]
theorem dec_head (u : Nat) : Lib.decDigits u ≠ [] ∧ (1 < (Lib.decDigits u).length → (Lib.decDigits u).head? ≠ some 48) := by
  induction u using Nat.strongRecOn with
  | _ u ih =>
    by_cases h : u < 10
    · rw [Lib.decDigits_one h]
      exact ⟨by simp, fun h => by simp at h⟩
    · rw [decDigits_step h]
      obtain ⟨h1, h2⟩ := ih (u / 10) (by omega)
      refine ⟨by simp, fun _ => ?_⟩
      rw [head_app h1]
      by_cases h3 : u / 10 < 10
      · rw [Lib.decDigits_one h3, List.head?_cons]
        intro e
        have e1 := congrArg UInt8.toNat (Option.some.inj e)
        rw [dig_byte h3] at e1
        have e2 : (48 : UInt8).toNat = 48 := rfl
        omega
      · refine h2 ?_
        rw [decDigits_step h3, List.length_append]
        have := List.length_pos_iff.2 (ih (u / 10 / 10) (by omega)).1
        simp only [List.length_cons, List.length_nil]
        omega
/-- How a word is read. -/
def puD (s : ByteArray) : Lib.NumEnd Nat := if s.size = 0 then .syntax else Lib.parseUintM 9223372036854775807 0 s.data.toList
theorem list_ne {s : ByteArray} (h : s.size ≠ 0) : s.data.toList ≠ [] := fun e => h (by rw [size_list, e]; rfl)
theorem puD_yes {s : ByteArray} {u : Nat} (h : puD s = .ok u) (hz : ¬ (1 < s.size ∧ s.data.toList.head? = some 48)) : IsNum s.data.toList u := by
  unfold puD at h
  by_cases h0 : s.size = 0
  · rw [if_pos h0] at h; cases h
  · rw [if_neg h0] at h
    obtain ⟨h1, h2, h3⟩ := pu_ok _ 0 u (by omega) h
    have h2 : u = valD s.data.toList := h2
    refine ⟨h3, ?_⟩
    rw [h2, dec_back _ _ rfl (list_ne h0) h1 (fun h e => hz ⟨by rw [size_list]; exact h, e⟩)]
theorem puD_num {s : ByteArray} {m : Nat} (h : IsNum s.data.toList m) : puD s = .ok m ∧ ¬ (1 < s.size ∧ s.data.toList.head? = some 48) := by
  have h1 := dec_head m
  have h0 : s.size ≠ 0 := fun e => h1.1 (by rw [← h.2]; exact List.length_eq_zero_iff.1 (by rw [← size_list]; exact e))
  unfold puD
  rw [if_neg h0]
  have h2 : valF 0 s.data.toList = m := by rw [h.2]; exact valD_dec m
  refine ⟨?_, fun hh => ?_⟩
  · rw [pu_of _ 0 (by rw [h.2]; exact dec_digits m) (by rw [h2]; exact h.1), h2]
  · rw [h.2] at hh
    exact h1.2 (by rw [← h.2, ← size_list]; exact hh.1) hh.2

/-! ### the world that a desk works in -/

/-- Go's tables, strconv's two errors, and bytealg's number lie where they should. -/
structure DW (w : World) : Prop where
  tab : Tab w
  ptab : PTab w
  es : ∃ ev, w.cell? ⟨6, 0, none⟩ = some ev ∧ (ev = .nilIface ∨ ∃ te pe, ev = .iface te pe)
  er : ∃ ev, w.cell? ⟨7, 0, none⟩ = some ev ∧ (ev = .nilIface ∨ ∃ te pe, ev = .iface te pe)
  mx : ∃ M, w.cell? ⟨0, 0, none⟩ = some (.int .i64 M)
theorem DW.kept {w w' : World} (h : DW w) (hb : Below w.heap.size w w') : DW w' := by
  obtain ⟨h1, h2, ⟨e1, h3, h4⟩, ⟨e2, h5, h6⟩, M, h7⟩ := h
  have l1 := World.block_lt_of_cell? w _ h3
  have l2 := World.block_lt_of_cell? w _ h5
  have l3 := World.block_lt_of_cell? w _ h7
  exact ⟨h1.kept hb h1.1, h2.kept hb, ⟨e1, (hb.cell l1).trans h3, h4⟩, ⟨e2, (hb.cell l2).trans h5, h6⟩, M, (hb.cell l3).trans h7⟩

theorem bel_drewN {w w1 : World} (h : Below w.heap.size w w1) (n : Nat) : Below w.heap.size w (w1.drewN n) := ⟨h.os, h.tape, h.output, h.size, h.block⟩
theorem puin_any (s : ByteArray) (w : World) (hs : s.size ≤ 2000000) : Calls Tryz.prog 173 #[.string s, .int .i64 10, .int .i64 63] w fun e w' => e = .returned (Lib.uintTupleM 230 9223372036854775807 (puD s)) ∧ Below w.heap.size w w' := by
  by_cases h0 : s.size = 0
  · obtain rfl : s = ⟨#[]⟩ := empty_of (List.length_eq_zero_iff.1 (by rw [← size_list]; exact h0))
    refine (puin_none w).mono fun e w' ⟨h1, h2⟩ => ⟨h1, h2 ▸ Below.refl _ _⟩
  · refine (puin_some s h0 hs w).mono fun e w' ⟨h1, h2⟩ => ⟨?_, ?_⟩
    · rw [h1, puD, if_neg h0]
    · rw [h2]; exact Lib.bytesWorld_below _ _ _

def puOut (s : ByteArray) (w : World) (e : Ending) (w' : World) : Prop := ((∃ u : Nat, e = .returned (.tuple #[.int .u64 (u : Int), .nilIface]) ∧ puD s = .ok u ∧ u ≤ 9223372036854775807) ∨ (∃ (u N : Nat), e = .returned (.tuple #[.int .u64 (u : Int), .iface 232 (.pointer (some ⟨N, 0, none⟩))]) ∧ u ≤ 18446744073709551615 ∧ ∀ z, puD s ≠ .ok z)) ∧ Below w.heap.size w w'

set_option maxHeartbeats 4000000 in
set_option maxRecDepth 100000 in
theorem pu_any (s : ByteArray) (w : World) (hs : s.size ≤ 2000000) (h : DW w) : Calls Tryz.prog 142 #[.string s, .int .i64 10, .int .i64 63] w fun e w' => puOut s w e w' := by
  have HI := hid (puin_any s w hs)
  obtain ⟨e1, hes, hes2⟩ := h.es
  obtain ⟨e2, her, her2⟩ := h.er
  have l1 := World.block_lt_of_cell? w _ hes
  have l2 := World.block_lt_of_cell? w _ her
  have H1 := hid (fun W (hb : Below w.heap.size w W) => Tryz.toErr_syntax ⟨#[80, 97, 114, 115, 101, 85, 105, 110, 116]⟩ s 10 63 e1 W (by omega) ((hb.cell l1).trans hes) hes2)
  have H2 := hid (fun W (hb : Below w.heap.size w W) => Tryz.toErr_range ⟨#[80, 97, 114, 115, 101, 85, 105, 110, 116]⟩ s 10 63 e2 W (by omega) ((hb.cell l2).trans her) her2)
  clear h hes her hes2 her2 l1 l2
  match hp : puD s with
  | .ok u =>
    have hu : u ≤ 9223372036854775807 := by
      unfold puD at hp
      by_cases h0 : s.size = 0
      · rw [if_pos h0] at hp; cases hp
      · rw [if_neg h0] at hp
        exact (pu_ok _ 0 u (by omega) hp).2.2
    rw [hp] at HI
    change Hid (Calls Tryz.prog 173 #[.string s, .int .i64 10, .int .i64 63] w fun e w' => e = .returned (.tuple #[.int .u64 (u : Int), .nilIface]) ∧ Below w.heap.size w w') at HI
    have HP := hid hp
    clear hp H1 H2
    go_enter Tryz.func142, Tryz.ntmps142
    go_wp2_with (go_at_call 173; refine (HI.out).mono ?_; rintro e w1 ⟨rfl, hb⟩; have HB := hid hb; clear hb)
    go_ret2
    exact ⟨.inl ⟨u, rfl, HP.out, hu⟩, HB.out⟩
  | .syntax =>
    rw [hp] at HI
    change Hid (Calls Tryz.prog 173 #[.string s, .int .i64 10, .int .i64 63] w fun e w' => e = .returned (.tuple #[.int .u64 0, .iface 230 (.int .i64 2)]) ∧ Below w.heap.size w w') at HI
    have HP := hid hp
    clear hp H2
    go_enter Tryz.func142, Tryz.ntmps142
    go_wp2_with (go_at_call 173; refine (HI.out).mono ?_; rintro e w1 ⟨rfl, hb⟩; have HB := hid hb; clear hb)
    refine (H1.out _ HB.out).mono ?_
    rintro e w2 ⟨N, rfl, hb⟩
    have HB2 := hid (HB.out.trans (hb.mono HB.out.size))
    clear hb
    go_wp2_with fail
    go_ret2
    exact ⟨.inr ⟨0, N, rfl, by omega, fun z hz => by rw [HP.out] at hz; cases hz⟩, HB2.out⟩
  | .range =>
    rw [hp] at HI
    change Hid (Calls Tryz.prog 173 #[.string s, .int .i64 10, .int .i64 63] w fun e w' => e = .returned (.tuple #[.int .u64 9223372036854775807, .iface 230 (.int .i64 1)]) ∧ Below w.heap.size w w') at HI
    have HP := hid hp
    clear hp H1
    go_enter Tryz.func142, Tryz.ntmps142
    go_wp2_with (go_at_call 173; refine (HI.out).mono ?_; rintro e w1 ⟨rfl, hb⟩; have HB := hid hb; clear hb)
    refine (H2.out _ HB.out).mono ?_
    rintro e w2 ⟨N, rfl, hb⟩
    have HB2 := hid (HB.out.trans (hb.mono HB.out.size))
    clear hb
    go_wp2_with fail
    go_ret2
    exact ⟨.inr ⟨9223372036854775807, N, rfl, by omega, fun z hz => by rw [HP.out] at hz; cases hz⟩, HB2.out⟩

theorem head_bt {s : ByteArray} (h : 0 < s.size) : s.data.toList.head? = some 48 ↔ ((s[0]'h).toNat : Int) = 48 := by
  have e : s.data.toList.head? = some (s[0]'h) := by
    rw [List.head?_eq_getElem?, List.getElem?_eq_getElem (by rw [← size_list]; exact h)]
    rfl
  rw [e]
  constructor
  · intro h1
    rw [Option.some.inj h1]; rfl
  · intro h1
    congr 1
    exact UInt8.toNat_inj.1 (by have : (48 : UInt8).toNat = 48 := rfl; omega)

set_option maxHeartbeats 4000000 in
set_option maxRecDepth 100000 in
theorem number_any (s : ByteArray) (w : World) (hs : s.size ≤ 2000000) (h : DW w) : Calls Tryz.prog 100 #[.string s] w fun e w' => numOut s w e w' := by
  have HP := hid (pu_any s w hs h)
  clear h
  by_cases h1 : 1 < s.size
  · have t1 : (1 : Int) < (s.size : Int) := by omega
    have t2 : (0 : Int) < (s.size : Int) := by omega
    have hl : 0 < s.size := by omega
    have hh := head_bt hl
    obtain ⟨y, hy⟩ : ∃ y : Int, ((s[0]'hl).toNat : Int) = y := ⟨_, rfl⟩
    rw [hy] at hh
    by_cases h48 : y = 48
    · have HZ := hid (hh.2 h48)
      have HS := hid h1
      subst h48
      clear hh h1
      go_enter Tryz.func100, Tryz.ntmps100
      go_wp2_with fail
      go_ret2
      exact ⟨0, false, rfl, (fun h => by cases h), fun ⟨m, hm⟩ => absurd ⟨HS.out, HZ.out⟩ (puD_num hm).2, by omega, Below.refl _ _⟩
    · have HZ := hid (fun e => h48 (hh.1 e))
      have hne : (y == 48) = false := beq_eq_false_iff_ne.2 h48
      clear hh h1
      go_enter Tryz.func100, Tryz.ntmps100
      go_wp2_with fail
      refine (HP.out).mono ?_
      rintro e w1 ⟨⟨u, rfl, hu, hu9⟩ | ⟨u, N, rfl, hu9, hu⟩, hb⟩
      · have HU := hid hu
        have HB := hid hb
        clear hu hb
        go_wp2_with fail
        go_quiet (fail)
        go_wp2_with fail
        go_ret2
        exact ⟨u, true, rfl, fun _ => puD_yes HU.out (fun hh => HZ.out hh.2), fun _ => rfl, by omega, bel_drewN HB.out _⟩
      · have HU := hid hu
        have HB := hid hb
        clear hu hb
        go_wp2_with fail
        go_quiet (fail)
        go_wp2_with fail
        go_ret2
        exact ⟨u, false, rfl, (fun h => by cases h), fun ⟨m, hm⟩ => absurd (puD_num hm).1 (HU.out m), by omega, bel_drewN HB.out _⟩
  · have t1 : ¬ (1 : Int) < (s.size : Int) := by omega
    have HS := hid h1
    clear h1
    go_enter Tryz.func100, Tryz.ntmps100
    go_wp2_with fail
    refine (HP.out).mono ?_
    rintro e w1 ⟨⟨u, rfl, hu, hu9⟩ | ⟨u, N, rfl, hu9, hu⟩, hb⟩
    · have HU := hid hu
      have HB := hid hb
      clear hu hb
      go_wp2_with fail
      go_quiet (fail)
      go_wp2_with fail
      go_ret2
      exact ⟨u, true, rfl, fun _ => puD_yes HU.out (fun hh => HS.out hh.1), fun _ => rfl, by omega, bel_drewN HB.out _⟩
    · have HU := hid hu
      have HB := hid hb
      clear hu hb
      go_wp2_with fail
      go_quiet (fail)
      go_wp2_with fail
      go_ret2
      exact ⟨u, false, rfl, (fun h => by cases h), fun ⟨m, hm⟩ => absurd (puD_num hm).1 (HU.out m), by omega, bel_drewN HB.out _⟩

end Go.Proofs.YtiohbjnnfkadnaaGreatDoor
