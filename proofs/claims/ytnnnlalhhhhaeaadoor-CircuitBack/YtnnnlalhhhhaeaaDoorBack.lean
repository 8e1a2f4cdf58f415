/-
  A contract of the law CircuitBack, for every circuit and every text: it answers true.
-/
import Derived.Test.YtnnnlalhhhhaeaaDoorCircS2
import Derived.Test.YtnnnlalhhhhaeaaDoorCircP
import Derived.Test.YtnnnlalhhhhaeaaDoorTiny
import Derived.Test.YtnnnlalhhhhaeaaDoorSameC
namespace Go.Proofs.YtnnnlalhhhhaeaaDoor
open Go.RowKit Go.PlainAid
set_option linter.unusedVariables false
attribute [local go_sem ↓] Go.wp_at_zero Go.wp_at_succ

/-- What holds of the world all along. -/
structure StB (w W : World) (B : Nat) (g : Int) (v : Value) : Prop where
  bel : Below w.heap.size w W
  box : Box2 W B (.int .i64 g) v
theorem StB.next {w W W' : World} {B : Nat} {g : Int} {v : Value} (h : StB w W B g v) (hb : Below W.heap.size W W') : StB w W' B g v := ⟨h.bel.trans (hb.mono h.bel.size), h.box.kept hb⟩
theorem StB.start (w : World) (g : Int) (v : Value) (t : TypeId) : StB w (w.alloc (.cells #[.int .i64 g, v] t)) w.heap.size g v := ⟨(Below.refl _ w).alloc (Nat.le_refl _) _, Box2.new w _ _ _⟩
theorem byte_ext {a b : ByteArray} (h : a.data.toList = b.data.toList) : a = b := by
  cases a; cases b
  congr
  exact Array.ext' h
theorem parse_right {s : List UInt8} {c : CQ} {a : Nat} (h : parseE s c a 0) : printQ c = s ∧ c.right := by
  rcases h with ⟨_, _, _, h⟩ | ⟨_, _, _, h⟩ | ⟨_, d, h2, h3, _, h5, _⟩
  · cases h
  · cases h
  · obtain rfl := h5 rfl
    exact ⟨(print_text h2).1, checkE_zero.1 h3⟩
theorem parse_wrong {s : List UInt8} {c : CQ} {a : Nat} {e : Int} (h : parseE s c a e) (he : e ≠ 0) : c = ⟨0, []⟩ := by
  rcases h with ⟨_, h, _⟩ | ⟨_, _, h, _⟩ | ⟨_, d, _, _, _, _, h⟩
  · exact h
  · exact h
  · exact h he
theorem parse_print {c : CQ} (h : c.right) (hl : (printQ c).length ≤ 4096) : parseE (printQ c) c 0 0 := .inr (.inr ⟨hl, c, text_print c (right_fits h), checkE_zero.2 h, rfl, fun _ => rfl, fun h => absurd rfl h⟩)

set_option maxHeartbeats 2000000 in
set_option maxRecDepth 100000 in
theorem back_any (c : CQ) (g : Int) (ao : Option Addr) (n cap : Nat) (A : Nat → Option Addr) (C : Nat → Nat) (s : ByteArray) (M : Int) (w : World) (hg : c.log = g) (hn : c.layers.length = n) (hr : CRow w ao c.layers A C) (hM : w.cell? ⟨0, 0, none⟩ = some (.int .i64 M)) :
    Calls Tryd.prog 4 #[.agg #[.int .i64 g, .slice ao n cap], .string s] w fun e w' => e = .returned (.bool true) ∧ Below w.heap.size w w' := by
  have HML := hid (World.block_lt_of_cell? w _ hM)
  have HM := hid hM
  have HR := hid hr
  have HG := hid hg
  have HN := hid hn
  have HS0 := hid (StB.start w g (.slice ao n cap) 24)
  obtain ⟨x, hx⟩ : ∃ x, checkE c x := checkE_some c
  have HX := hid hx
  clear hr hx hg hn hM
  go_enter Tryd.func4, Tryd.ntmps4
  go_wp2_with fail
  obtain ⟨B, hB⟩ : ∃ B, w.heap.size = B := ⟨_, rfl⟩
  have HBE := hid hB
  have HS1 : Hid (StB w (w.alloc (.cells #[.int .i64 g, .slice ao n cap] 24)) B g (.slice ao n cap)) := hid (by rw [← hB]; exact HS0.out)
  rw [hB]
  clear hB HS0
  generalize w.alloc (.cells #[.int .i64 g, .slice ao n cap] 24) = W1 at HS1 ⊢
  refine (tiny_any W1).mono ?_
  rintro e w1 ⟨tb, tA, tC, rfl, htr, hb⟩
  have HTR := hid htr
  have HS2 := hid (HS1.out.next hb)
  clear hb htr HS1
  go_wp2_with fail
  refine (print_ok tinyQ 1 tb 0 1 1 tA tC w1 rfl rfl tiny_right HTR.out).mono ?_
  rintro e w2 ⟨t, rfl, ht, _, hb⟩
  have et : (t.toList == [105, 110, 112, 117, 116, 115, 32, 49, 10, 108, 97, 121, 101, 114, 32, 49, 10, 109, 117, 108, 32, 48, 32, 49, 10, 97, 100, 100, 32, 48, 32, 49, 10]) = true := by rw [word_eq, ht]; decide
  have HS3 := hid (HS2.out.next hb)
  clear hb ht HS2 HTR
  obtain ⟨z0, z1, zl⟩ := HS3.out.box
  go_wp2_with fail
  clear et
  by_cases h0 : x = 0
  · subst h0
    have HC := hid (checkE_zero.1 HX.out)
    obtain ⟨b, off, rfl, _⟩ := HR.out HC.out.some
    refine (print_ok c g b off n cap A C w2 HG.out HN.out HC.out (HR.out.kept HS3.out.bel)).mono ?_
    rintro e w3 ⟨t2, rfl, ht2, hsz, hb⟩
    have HS4 := hid (HS3.out.next hb)
    have HT2 := hid ht2
    clear hb z0 z1 zl HS3 ht2
    go_wp2_with fail
    refine (parse_any t2 M w3 ((HS4.out.bel.cell (p := ⟨0, 0, none⟩) HML.out).trans HM.out)).mono ?_
    rintro e w4 ⟨hb, c2, at', y, v, ps, hpe, hup, hat, rfl, hoc, hlay⟩
    have hl4 : (printQ c).length ≤ 4096 := by rw [← HT2.out, list_size]; exact hsz
    rw [HT2.out] at hpe
    obtain ⟨rfl, rfl, rfl⟩ := parseE_one hpe (parse_print HC.out hl4)
    have HS5 := hid (HS4.out.next hb)
    clear hb HS4 hpe hl4 hup hat
    obtain ⟨hve, _, _, hrow⟩ := hoc.row
    obtain ⟨va, hva⟩ : ∃ x, adrV v = x := ⟨_, rfl⟩
    obtain ⟨vc, hvc⟩ : ∃ x, capV v = x := ⟨_, rfl⟩
    have hpk : ps.length = n := by rw [← HN.out, hlay, List.length_map]
    rw [hva, hvc, hpk] at hve
    rw [hva, ← hlay] at hrow
    have hlog := HG.out
    subst hve
    have HROW := hid hrow
    clear hoc hlay hva hvc hpk hrow hsz
    obtain ⟨z0, z1, zl⟩ := HS5.out.box
    rw [hlog]
    have hal := (Below.refl w4.heap.size w4).alloc (Nat.le_refl _) (.cells #[.int .i64 g, .slice va n vc] 24)
    have HS6 := hid (HS5.out.next hal)
    have HROW6 := hid (HROW.out.kept hal)
    have z0' : ∀ o, (w4.alloc o).cell? ⟨B, 0, none⟩ = some (.int .i64 g) := fun o => by rw [World.cell?_alloc_old _ _ _ (Nat.ne_of_lt zl)]; exact z0
    have z1' : ∀ o, (w4.alloc o).cell? ⟨B, 1, none⟩ = some (.slice (some ⟨b, off, none⟩) n cap) := fun o => by rw [World.cell?_alloc_old _ _ _ (Nat.ne_of_lt zl)]; exact z1
    clear hal hlog
    go_wp2_with fail
    have HSM := hid (right_small HC.out)
    refine (samecirc_ok g va (some ⟨b, off, none⟩) n vc cap c2.layers _ A _ C _ HN.out (by rw [← HN.out]; have := HC.out.few; omega) HROW6.out (HR.out.kept HS6.out.bel) (fun l hl => ⟨(HSM.out l hl).2.2, by have := (HSM.out l hl).2.1; omega⟩)).mono ?_
    rintro e wk ⟨rfl, hb⟩
    have HSF := hid (HS6.out.next hb).bel
    clear hb z0 z1 zl z0' z1' HS5 HS6 HROW HROW6 HSM
    go_wp2_with fail
    clear HX HC HR HG HN HT2
    refine (parse_any s M wk ((HSF.out.cell (p := ⟨0, 0, none⟩) HML.out).trans HM.out)).mono ?_
    rintro e w6 ⟨hb6, d, at6, y, v6, qs, hpe, hup, hat, rfl, hoc, hlay⟩
    have HB6 := hid (HSF.out.trans (hb6.mono HSF.out.size))
    have HPE := hid hpe
    clear hb6 hpe hup
    obtain ⟨hve, _, _, hrow⟩ := hoc.row
    obtain ⟨va6, hva⟩ : ∃ x, adrV v6 = x := ⟨_, rfl⟩
    obtain ⟨vc6, hvc⟩ : ∃ x, capV v6 = x := ⟨_, rfl⟩
    obtain ⟨dl, hdl⟩ : ∃ x, d.log = x := ⟨_, rfl⟩
    obtain ⟨pk, hpk⟩ : ∃ x, qs.length = x := ⟨_, rfl⟩
    have hdn : d.layers.length = pk := by rw [← hpk, hlay, List.length_map]
    rw [hva, hvc, hpk] at hve
    rw [hva, ← hlay] at hrow
    subst hve
    rw [hdl]
    have hsz6 : w.heap.size ≤ w6.heap.size := HB6.out.size
    by_cases hy : y = 0
    · subst hy
      obtain ⟨hpr, hrt⟩ := parse_right HPE.out
      have HRT := hid hrt
      have HPR := hid hpr
      obtain ⟨b6, off6, rfl, _⟩ := hrow hrt.some
      have hal := (Below.refl w6.heap.size w6).alloc (Nat.le_refl _) (.cells #[.int .i64 dl, .slice (some ⟨b6, off6, none⟩) pk vc6] 24)
      have HROW := hid (hrow.kept hal)
      have HB7 := hid (HB6.out.trans (hal.mono hsz6))
      have HDL := hid hdl
      have HDN := hid hdn
      clear hal hrow hoc hlay hva hvc hpk hdl hdn hpr hrt HB6 HSF
      go_wp2_with fail
      refine (print_ok d dl b6 off6 pk vc6 _ _ _ HDL.out HDN.out HRT.out HROW.out).mono ?_
      rintro e w7 ⟨t7, rfl, ht7, _, hb7⟩
      obtain rfl : t7 = s := byte_ext (ht7.trans HPR.out)
      have HB8 := hid (HB7.out.trans (hb7.mono HB7.out.size))
      clear hb7 HB7 ht7
      go_wp2_with fail
      go_ret
      exact ⟨by simp, HB8.out⟩
    · have e0 : (y != 0) = true := by simp; exact hy
      obtain rfl := parse_wrong HPE.out hy
      obtain rfl : 0 = pk := hdn
      have hat0 : (0 : Int) ≤ (at6 : Int) := by omega
      have HB7 := hid (HB6.out.trans (((Below.refl w6.heap.size w6).alloc (Nat.le_refl _) (.cells #[.int .i64 dl, .slice va6 0 vc6] 24)).mono hsz6))
      clear hrow hoc hlay hva hvc hpk hdl HB6 HSF
      go_wp2_with fail
      go_ret
      exact ⟨by simp, HB7.out⟩
  · refine (print_bad c g ao n cap A C x w2 HG.out HN.out (HR.out.kept HS3.out.bel) HX.out h0).mono ?_
    rintro e wk ⟨rfl, hb⟩
    have HSF := hid (HS3.out.next hb).bel
    have e0 : (x == 0) = false := beq_eq_false_iff_ne.2 h0
    clear hb z0 z1 zl HS3
    go_wp2_with fail
    clear HX HR HG HN e0
    refine (parse_any s M wk ((HSF.out.cell (p := ⟨0, 0, none⟩) HML.out).trans HM.out)).mono ?_
    rintro e w6 ⟨hb6, d, at6, y, v6, qs, hpe, hup, hat, rfl, hoc, hlay⟩
    have HB6 := hid (HSF.out.trans (hb6.mono HSF.out.size))
    have HPE := hid hpe
    clear hb6 hpe hup
    obtain ⟨hve, _, _, hrow⟩ := hoc.row
    obtain ⟨va6, hva⟩ : ∃ x, adrV v6 = x := ⟨_, rfl⟩
    obtain ⟨vc6, hvc⟩ : ∃ x, capV v6 = x := ⟨_, rfl⟩
    obtain ⟨dl, hdl⟩ : ∃ x, d.log = x := ⟨_, rfl⟩
    obtain ⟨pk, hpk⟩ : ∃ x, qs.length = x := ⟨_, rfl⟩
    have hdn : d.layers.length = pk := by rw [← hpk, hlay, List.length_map]
    rw [hva, hvc, hpk] at hve
    rw [hva, ← hlay] at hrow
    subst hve
    rw [hdl]
    have hsz6 : w.heap.size ≤ w6.heap.size := HB6.out.size
    by_cases hy : y = 0
    · subst hy
      obtain ⟨hpr, hrt⟩ := parse_right HPE.out
      have HRT := hid hrt
      have HPR := hid hpr
      obtain ⟨b6, off6, rfl, _⟩ := hrow hrt.some
      have hal := (Below.refl w6.heap.size w6).alloc (Nat.le_refl _) (.cells #[.int .i64 dl, .slice (some ⟨b6, off6, none⟩) pk vc6] 24)
      have HROW := hid (hrow.kept hal)
      have HB7 := hid (HB6.out.trans (hal.mono hsz6))
      have HDL := hid hdl
      have HDN := hid hdn
      clear hal hrow hoc hlay hva hvc hpk hdl hdn hpr hrt HB6 HSF
      go_wp2_with fail
      refine (print_ok d dl b6 off6 pk vc6 _ _ _ HDL.out HDN.out HRT.out HROW.out).mono ?_
      rintro e w7 ⟨t7, rfl, ht7, _, hb7⟩
      obtain rfl : t7 = s := byte_ext (ht7.trans HPR.out)
      have HB8 := hid (HB7.out.trans (hb7.mono HB7.out.size))
      clear hb7 HB7 ht7
      go_wp2_with fail
      go_ret
      exact ⟨by simp, HB8.out⟩
    · have e0 : (y != 0) = true := by simp; exact hy
      obtain rfl := parse_wrong HPE.out hy
      obtain rfl : 0 = pk := hdn
      have hat0 : (0 : Int) ≤ (at6 : Int) := by omega
      have HB7 := hid (HB6.out.trans (((Below.refl w6.heap.size w6).alloc (Nat.le_refl _) (.cells #[.int .i64 dl, .slice va6 0 vc6] 24)).mono hsz6))
      clear hrow hoc hlay hva hvc hpk hdl HB6 HSF
      go_wp2_with fail
      go_ret
      exact ⟨by simp, HB7.out⟩

end Go.Proofs.YtnnnlalhhhhaeaaDoor
