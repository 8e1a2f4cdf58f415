/-
  A contract of package circuit's Parse, for every text; what it makes is new.
-/
import Derived.Test.YtnnnlalhhhhaeaaDoorCircS
import Derived.Test.YtnnnlalhhhhaeaaDoorCircC
namespace Go.Proofs.YtnnnlalhhhhaeaaDoor
open Go.RowKit Go.PlainAid
set_option linter.unusedVariables false
attribute [local go_sem ↓] Go.wp_at_zero Go.wp_at_succ

theorem results_three {fn : Func} {p u v : Tmp} {ty : TypeId} (h : fn.results = #[.cell p ty, .tmp u, .tmp v]) (tmps : Array Value) (P : Program) (w : World) :
    (results fn tmps).run P w =
      ((asAddr (tmps.getD p undef)).run P w).andThen fun a w₁ => ((loadVar ty a).run P w₁).andThen fun x w₂ => .ok (.tuple #[x, tmps.getD u undef, tmps.getD v undef]) w₂ := by
  simp only [results, h]
  simp [Sem.run_bind, Result.andThen]
theorem results_circ3 {fn : Func} {p u v : Tmp} (h : fn.results = #[.cell p 24, .tmp u, .tmp v]) {tmps : Array Value} {w : World} {b : Nat} {x0 x1 : Value} (hp : tmps.getD p undef = .pointer (some ⟨b, 0, none⟩)) (c0 : w.cell? ⟨b, 0, none⟩ = some x0) (c1 : w.cell? ⟨b, 1, none⟩ = some x1) :
    (results fn tmps).run Tryd.prog w = .ok (.tuple #[.agg #[x0, x1], tmps.getD u undef, tmps.getD v undef]) w := by
  rw [results_three h, hp]
  simp [asAddr, Result.andThen, load_circ c0 c1]

set_option maxHeartbeats 2000000 in
set_option maxRecDepth 100000 in
theorem parse_any (s : ByteArray) (M : Int) (w : World) (hM : w.cell? ⟨0, 0, none⟩ = some (.int .i64 M)) :
    Calls Tryd.prog 5 #[.string s] w fun e w' => Below w.heap.size w w' ∧
      ∃ (c : CQ) (at' : Nat) (x : Int) (v : Value) (ps : List (LQ × Value)), parseE s.data.toList c at' x ∧ c.upTo 4096 ∧ at' ≤ 4097 ∧ e = .returned (.tuple #[.agg #[.int .i64 c.log, v], .int .i64 (at' : Int), .int .i64 x]) ∧ OwnC w' w.heap.size v ps ∧ c.layers = ps.map (·.1) := by
  have HSZ := hid (list_size s)
  have HZ : Hid ((⟨0, []⟩ : CQ).upTo 4096) := hid ⟨by simp, by simp⟩
  have hA := (Below.refl w.heap.size w).alloc (Nat.le_refl _) (.cells #[.int .i64 0, .slice none 0 0] 24)
  have hR := RC.start w 24
  have hM0 := (hA.cell (World.block_lt_of_cell? w _ hM)).trans hM
  have hs0 : (w.alloc (.cells #[.int .i64 0, .slice none 0 0] 24)).heap.size = w.heap.size + 1 := by simp
  have HRL := fun h => hid (rlines_any s M _ h hM0)
  rw [hs0] at HRL
  have HB0 := hid hA
  have HR0 := hid hR
  have HS0 := hid hs0
  clear hA hR hM0 hM hs0
  by_cases hs : 4096 < s.size
  · have hsi : (4096 : Int) < (s.size : Int) := by omega
    have r0 := HR0.out.c0
    have r1 := HR0.out.c1
    have f0 := HR0.out.f0
    have f1 := HR0.out.f1
    go_enter Tryd.func5, Tryd.ntmps5
    go_wp2_with fail
    refine bodyPost_ret (results_circ3 rfl rfl r0 r1) rfl ?_
    exact ⟨HB0.out, ⟨0, []⟩, 0, 2, .slice none 0 0, [], .inl ⟨by rw [HSZ.out]; exact hs, rfl, rfl, rfl⟩, HZ.out, by omega, rfl, OwnC.nil _ _, rfl⟩
  · have hsi : ¬ ((4096 : Int) < (s.size : Int)) := by omega
    have HRL := HRL (by omega)
    go_enter Tryd.func5, Tryd.ntmps5
    go_wp2_with fail
    refine HRL.out.mono ?_
    rintro e w1 ⟨hb1, hcase⟩
    obtain ⟨B, hB⟩ : ∃ B, w.heap.size = B := ⟨_, rfl⟩
    rw [hB] at hb1 hcase HR0 HB0 HS0 ⊢
    have HR1 := hid (HR0.out.kept hb1 (Nat.lt_succ_self _))
    have HB1 := hid (HB0.out.trans (hb1.mono (Nat.le_succ _)))
    have HBE := hid hB
    clear hb1 HR0 HRL hB HS0
    have r0 : ∀ o, (w1.alloc o).cell? ⟨B, 0, none⟩ = some (.int .i64 0) := fun o => by rw [World.cell?_alloc_old _ _ _ (Nat.ne_of_lt HR1.out.lt)]; exact HR1.out.c0
    have r1 : ∀ o, (w1.alloc o).cell? ⟨B, 1, none⟩ = some (.slice none 0 0) := fun o => by rw [World.cell?_alloc_old _ _ _ (Nat.ne_of_lt HR1.out.lt)]; exact HR1.out.c1
    have f0 : ∀ o, (w1.alloc o).frozen? ⟨B, 0, none⟩ = false := fun o => by rw [World.frozen?_alloc_old _ _ _ (Nat.ne_of_lt HR1.out.lt)]; exact HR1.out.f0
    have f1 : ∀ o, (w1.alloc o).frozen? ⟨B, 1, none⟩ = false := fun o => by rw [World.frozen?_alloc_old _ _ _ (Nat.ne_of_lt HR1.out.lt)]; exact HR1.out.f1
    have hsz : B ≤ w1.heap.size := Nat.le_of_lt HR1.out.lt
    rcases hcase with ⟨n, htx, n1, n2, rfl⟩ | ⟨c, v, ps, htx, hup, rfl, hoc, hlay⟩
    · have e1 : ((n : Int) != 0) = true := by simp; omega
      go_wp2_with fail
      refine bodyPost_ret (results_circ3 rfl rfl (set_two (r0 _) (r1 _)).1 (set_two (r0 _) (r1 _)).2) rfl ?_
      rw [HBE.out]
      exact ⟨((HB1.out.alloc hsz _).setCell (Nat.le_refl _) _).setCell (Nat.le_refl _) _, ⟨0, []⟩, n, 3, .slice none 0 0, [], .inr (.inl ⟨by rw [HSZ.out]; omega, htx, rfl, rfl⟩), HZ.out, n2, rfl, OwnC.nil _ _, rfl⟩
    · obtain ⟨hve, _, _, hrow⟩ := hoc.row
      obtain ⟨va, hva⟩ : ∃ x, adrV v = x := ⟨_, rfl⟩
      obtain ⟨vc, hvc⟩ : ∃ x, capV v = x := ⟨_, rfl⟩
      rw [hva, hvc] at hve
      rw [hva, ← hlay] at hrow
      have hlen : c.layers.length = ps.length := by rw [hlay, List.length_map]
      obtain ⟨pk, hpk⟩ : ∃ x, ps.length = x := ⟨_, rfl⟩
      rw [hpk] at hve hlen
      subst hve
      have hal := (Below.refl w1.heap.size w1).alloc (Nat.le_refl _) (.cells #[.int .i64 c.log, .slice va pk vc] 24)
      have HROW := hid (hrow.kept hal)
      have HOC := hid (hoc.kept hal)
      have HRC := hid (HR1.out.kept hal HR1.out.lt)
      have HBA := hid (HB1.out.alloc hsz (.cells #[.int .i64 c.log, .slice va pk vc] 24))
      have HLAY := hid hlay
      have HLEN := hid hlen
      have HTX := hid htx
      have HUP := hid hup
      have hw2 : (w1.alloc (.cells #[.int .i64 c.log, .slice va pk vc] 24)).heap.size = w1.heap.size + 1 := by simp
      clear hrow hal hoc hlay hlen htx hup hva hvc hpk
      go_wp2_with fail
      refine (check_any c c.log va pk vc _ _ _ rfl HLEN.out HROW.out).mono ?_
      rintro e w3 ⟨x, rfl, hx, hb3⟩
      have HX := hid hx
      have HOC3 := hid (HOC.out.kept hb3)
      have HRC3 := hid (HRC.out.kept hb3 HRC.out.lt)
      have HB3 := hid (HBA.out.trans (hb3.mono (by rw [hw2]; omega)))
      have k0 := (hb3.cell (p := ⟨w1.heap.size, 0, none⟩) (by rw [hw2]; exact Nat.lt_succ_self _)).trans (World.cell?_alloc_new _ _ _ _)
      have k1 := (hb3.cell (p := ⟨w1.heap.size, 1, none⟩) (by rw [hw2]; exact Nat.lt_succ_self _)).trans (World.cell?_alloc_new _ _ _ _)
      clear r0 r1 f0 f1 hx hb3 HOC HRC HBA HROW hw2
      have r0 := HRC3.out.c0
      have r1 := HRC3.out.c1
      have f0 := HRC3.out.f0
      have f1 := HRC3.out.f1
      simp at k0 k1
      by_cases h0 : x = 0
      · subst h0
        have HOC4 := hid (fun u u' => (HOC3.out.setBelow (a := ⟨B, 0, none⟩) (Nat.lt_succ_self B) u).setBelow (a := ⟨B, 1, none⟩) (Nat.lt_succ_self B) u')
        go_wp2_with fail
        refine bodyPost_ret (results_circ3 rfl rfl (set_two r0 r1).1 (set_two r0 r1).2) rfl ?_
        rw [HBE.out]
        exact ⟨(HB3.out.setCell (Nat.le_refl _) _).setCell (Nat.le_refl _) _, c, 0, 0, _, ps, .inr (.inr ⟨by rw [HSZ.out]; omega, c, HTX.out, HX.out, rfl, fun _ => rfl, fun h => absurd rfl h⟩), HUP.out, by omega, rfl, (HOC4.out _ _).lower (Nat.le_succ _), HLAY.out⟩
      · have e1 : (x != 0) = true := by simp; exact h0
        go_wp2_with fail
        refine bodyPost_ret (results_circ3 rfl rfl (set_two r0 r1).1 (set_two r0 r1).2) rfl ?_
        rw [HBE.out]
        exact ⟨(HB3.out.setCell (Nat.le_refl _) _).setCell (Nat.le_refl _) _, ⟨0, []⟩, 0, x, .slice none 0 0, [], .inr (.inr ⟨by rw [HSZ.out]; omega, c, HTX.out, HX.out, rfl, fun h => absurd h h0, fun _ => rfl⟩), HZ.out, by omega, rfl, OwnC.nil _ _, rfl⟩

end Go.Proofs.YtnnnlalhhhhaeaaDoor
