/-
  A contract of the law CircuitReads, for every text: it answers true.
-/
import Derived.Test.YtnnnlalhhhhaeaaDoorRefRc
import Derived.Test.YtnnnlalhhhhaeaaDoorCircF
import Derived.Test.YtnnnlalhhhhaeaaDoorCircM
import Derived.Test.YtnnnlalhhhhaeaaDoorSameC
namespace Go.Proofs.YtnnnlalhhhhaeaaDoor
open Go.RowKit Go.PlainAid
set_option linter.unusedVariables false
attribute [local go_sem ↓] Go.wp_at_zero Go.wp_at_succ

theorem read_small {s : List UInt8} {c : CQ} {a : Nat} {e : Int} (h : parseE s c a e) : ∀ l ∈ c.layers, smallG l.gates ∧ l.gates.length ≤ 100000 := by
  intro l hl
  rcases h with ⟨_, rfl, _⟩ | ⟨_, _, rfl, _⟩ | ⟨_, d, _, h3, _, h5, h6⟩
  · simp at hl
  · simp at hl
  · by_cases he : e = 0
    · obtain rfl := h5 he
      subst he
      have := right_small (checkE_zero.1 h3) l hl
      exact ⟨this.2.2, by have := this.2.1; omega⟩
    · rw [h6 he] at hl
      simp at hl

set_option maxHeartbeats 2000000 in
set_option maxRecDepth 100000 in
theorem reads_any (s : ByteArray) (M : Int) (w : World) (hM : w.cell? ⟨0, 0, none⟩ = some (.int .i64 M)) :
    Calls Tryd.prog 3 #[.string s] w fun e w' => e = .returned (.bool true) ∧ Below w.heap.size w w' := by
  have HPA := hid (parse_any s M w hM)
  clear hM
  go_enter Tryd.func3, Tryd.ntmps3
  go_wp2_with fail
  refine HPA.out.mono ?_
  rintro e w1 ⟨hb1, c, at1, x, v, ps, hpe, hup, hat, rfl, hoc, hlay⟩
  have HPE := hid hpe
  obtain ⟨hve, _, _, hrow⟩ := hoc.row
  obtain ⟨va, hva⟩ : ∃ x, adrV v = x := ⟨_, rfl⟩
  obtain ⟨vc, hvc⟩ : ∃ x, capV v = x := ⟨_, rfl⟩
  rw [hva, hvc] at hve
  rw [hva, ← hlay] at hrow
  have hlen : c.layers.length = ps.length := by rw [hlay, List.length_map]
  obtain ⟨pk, hpk⟩ : ∃ x, ps.length = x := ⟨_, rfl⟩
  rw [hpk] at hve hlen
  subst hve
  have hpk4 : pk ≤ 4096 := by rw [← hlen]; exact hup.1
  obtain ⟨cl, hcl⟩ : ∃ x, c.log = x := ⟨_, rfl⟩
  rw [hcl]
  have hal := (Below.refl w1.heap.size w1).alloc (Nat.le_refl _) (.cells #[.int .i64 cl, .slice va pk vc] 24)
  have HX1 := hid (Box2.new w1 (.int .i64 cl) (.slice va pk vc) 24)
  have HROW := hid (hrow.kept hal)
  have HB1 := hid (hb1.trans (hal.mono hb1.size))
  have HLEN := hid hlen
  have HCL := hid hcl
  clear HPA hb1 hpe hup hat hoc hlay hrow hva hvc hpk hlen hal hcl
  go_wp2_with fail
  obtain ⟨B1, hB1⟩ : ∃ x, w1.heap.size = x := ⟨_, rfl⟩
  rw [hB1] at HX1 ⊢
  clear hB1
  generalize w1.alloc (.cells #[.int .i64 cl, .slice va pk vc] 24) = W1 at HX1 HROW HB1 ⊢
  refine (rread_any s W1).mono ?_
  rintro e w2 ⟨hb2, d, at2, y, v2, ps2, hpe2, _, _, rfl, hoc, hlay⟩
  obtain ⟨rfl, rfl, rfl⟩ := parseE_one hpe2 HPE.out
  obtain ⟨hve, _, _, hrow⟩ := hoc.row
  obtain ⟨va2, hva⟩ : ∃ x, adrV v2 = x := ⟨_, rfl⟩
  obtain ⟨vc2, hvc⟩ : ∃ x, capV v2 = x := ⟨_, rfl⟩
  rw [hva, hvc] at hve
  rw [hva, ← hlay] at hrow
  have hlen : ps2.length = pk := by rw [← HLEN.out, hlay, List.length_map]
  rw [hlen] at hve
  subst hve
  rw [HCL.out]
  have hal := (Below.refl w2.heap.size w2).alloc (Nat.le_refl _) (.cells #[.int .i64 cl, .slice va2 pk vc2] 24)
  have HR1 := hid ((HROW.out.kept hb2).kept hal)
  have HR2 := hid (hrow.kept hal)
  obtain ⟨z0, z1, zl⟩ := HX1.out.kept hb2
  have z0' : ∀ o, (w2.alloc o).cell? ⟨B1, 0, none⟩ = some (.int .i64 cl) := fun o => by rw [World.cell?_alloc_old _ _ _ (Nat.ne_of_lt zl)]; exact z0
  have z1' : ∀ o, (w2.alloc o).cell? ⟨B1, 1, none⟩ = some (.slice va pk vc) := fun o => by rw [World.cell?_alloc_old _ _ _ (Nat.ne_of_lt zl)]; exact z1
  have HB2 := hid ((HB1.out.trans (hb2.mono HB1.out.size)).trans (hal.mono (Nat.le_trans HB1.out.size hb2.size)))
  have HSM := hid (read_small HPE.out)
  clear hb2 hal hrow hoc hlay hva hvc hlen HROW HX1 HB1 hpe2
  go_wp2_with fail
  refine (samecirc_ok cl va va2 pk vc vc2 _ _ _ _ _ _ HLEN.out (by omega) HR1.out HR2.out HSM.out).mono ?_
  rintro e w3 ⟨rfl, hb3⟩
  have HB3 := hid (HB2.out.trans (hb3.mono HB2.out.size))
  clear hb3 HB2
  go_wp2_with fail
  go_ret
  exact ⟨by simp, HB3.out⟩

end Go.Proofs.YtnnnlalhhhhaeaaDoor
