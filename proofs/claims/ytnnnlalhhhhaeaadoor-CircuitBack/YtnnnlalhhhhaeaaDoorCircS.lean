/-
  A contract of package circuit's readLines, for every text; what it makes is new.
-/
import Derived.Test.YtnnnlalhhhhaeaaDoorCircG2
import Derived.Laws.ResultCell
namespace Go.Proofs.YtnnnlalhhhhaeaaDoor
open Go.RowKit Go.PlainAid
set_option linter.unusedVariables false
attribute [local go_sem ↓] Go.wp_at_zero Go.wp_at_succ

/-- No more layers, and no more gates in one of them, than k. -/
def CQ.upTo (c : CQ) (k : Nat) : Prop := c.layers.length ≤ k ∧ ∀ l ∈ c.layers, l.gates.length ≤ k
theorem gateTo_upTo (ls : List LQ) (g : GQ) (k : Nat) (h : ∀ l ∈ ls, l.gates.length ≤ k) : (gateTo ls g).length = ls.length ∧ ∀ l ∈ gateTo ls g, l.gates.length ≤ k + 1 := by
  rcases List.eq_nil_or_concat ls with rfl | ⟨p, l, rfl⟩
  · exact ⟨rfl, by simp [gateTo]⟩
  · rw [List.concat_eq_append] at h ⊢
    rw [gateTo_snoc]
    refine ⟨by simp, fun x hx => ?_⟩
    rcases List.mem_append.1 hx with hx | hx
    · have := h x (List.mem_append_left _ hx); omega
    · simp at hx
      subst hx
      have := h l (by simp)
      simp
      omega
theorem step_upTo {i k : Nat} {c c' : CQ} {x : Ln} (h : c.upTo k) (hs : stepQ i c x = some c') : c'.upTo (k + 1) := by
  rcases x with n | n | g
  · simp only [stepQ] at hs
    split at hs
    · injection hs with hs
      subst hs
      exact ⟨Nat.le_succ_of_le h.1, fun l hl => Nat.le_succ_of_le (h.2 l hl)⟩
    · cases hs
  · simp only [stepQ] at hs
    split at hs
    · cases hs
    · injection hs with hs
      subst hs
      refine ⟨by simp; exact h.1, fun l hl => ?_⟩
      rcases List.mem_append.1 hl with hl | hl
      · exact Nat.le_succ_of_le (h.2 l hl)
      · simp at hl; subst hl; simp
  · simp only [stepQ] at hs
    split at hs
    · cases hs
    · injection hs with hs
      subst hs
      have := gateTo_upTo c.layers g k h.2
      exact ⟨by show (gateTo c.layers g).length ≤ _; rw [this.1]; exact Nat.le_succ_of_le h.1, this.2⟩
theorem line_upTo {i k : Nat} {c c' : CQ} {s : List UInt8} (h : c.upTo k) (hs : (lineQ s).bind (stepQ i c) = some c') : c'.upTo (k + 1) := by
  cases e : lineQ s with
  | none => rw [e] at hs; cases hs
  | some x => rw [e] at hs; exact step_upTo h hs
theorem PS.start (w : World) (t : TypeId) : PS w.heap.size (w.alloc (.cells #[.int .i64 0, .slice none 0 0] t)) w.heap.size (w.heap.size + 1) ⟨0, []⟩ (.slice none 0 0) [] :=
  ⟨by rw [World.cell?_alloc_new]; rfl, by rw [World.cell?_alloc_new]; rfl, by rw [World.frozen?_alloc_new], by rw [World.frozen?_alloc_new], OwnC.nil _ _, rfl, Nat.lt_succ_self _, by simp, Nat.le_refl _⟩
theorem PS.upTo {B0 : Nat} {w : World} {cb base : Nat} {c : CQ} {v : Value} {ps : List (LQ × Value)} {k : Nat} (h : PS B0 w cb base c v ps) (hu : c.upTo k) : ps.length ≤ k ∧ ∀ p ∈ ps, p.1.gates.length ≤ k := by
  have hl := h.lay
  refine ⟨by have := hu.1; rw [hl, List.length_map] at this; exact this, fun p hp => hu.2 p.1 (by rw [hl]; exact List.mem_map_of_mem hp)⟩
/-- A text that is cut, by the library's words. -/
theorem cut_none {s : ByteArray} (h : cutL 10 s.data.toList = none) : Lib.cut s.data.toList (⟨#[10]⟩ : ByteArray).data.toList = (s.data.toList, [], false) := by
  have := cut_cutL 10 s.data.toList
  rw [h] at this
  exact this
theorem cut_some {s p r : ByteArray} (h : cutL 10 s.data.toList = some (p.data.toList, r.data.toList)) : Lib.cut s.data.toList (⟨#[10]⟩ : ByteArray).data.toList = (p.data.toList, r.data.toList, true) := by
  have := cut_cutL 10 s.data.toList
  rw [h] at this
  exact this

/-- The cells of a circuit that a call answers: nothing is written there yet. -/
structure RC (w : World) (b : Nat) : Prop where
  c0 : w.cell? ⟨b, 0, none⟩ = some (.int .i64 0)
  c1 : w.cell? ⟨b, 1, none⟩ = some (.slice none 0 0)
  f0 : w.frozen? ⟨b, 0, none⟩ = false
  f1 : w.frozen? ⟨b, 1, none⟩ = false
  lt : b < w.heap.size
theorem RC.start (w : World) (t : TypeId) : RC (w.alloc (.cells #[.int .i64 0, .slice none 0 0] t)) w.heap.size :=
  ⟨by rw [World.cell?_alloc_new]; rfl, by rw [World.cell?_alloc_new]; rfl, by rw [World.frozen?_alloc_new], by rw [World.frozen?_alloc_new], by simp⟩
theorem RC.kept {w w' : World} {b n : Nat} (h : RC w b) (hb : Below n w w') (hn : b < n) : RC w' b :=
  ⟨(hb.cell hn).trans h.c0, (hb.cell hn).trans h.c1, (hb.frozen hn).trans h.f0, (hb.frozen hn).trans h.f1, Nat.lt_of_lt_of_le h.lt hb.size⟩
theorem owns_lower {w : World} {base b' : Nat} {e : TypeId} {size : Nat} {v : Value} {n : Nat} {xs : List Value} (h : w.ownsRow base e size v n xs) (hb : b' ≤ base) : w.ownsRow b' e size v n xs := by
  refine ⟨h.1, ?_⟩
  rcases h.2 with h2 | ⟨g, cap, cur, hv, hg, r⟩
  · exact .inl h2
  · exact .inr ⟨g, cap, cur, hv, Nat.le_trans hb hg, r⟩
theorem OwnC.lower {w : World} {base b' : Nat} {v : Value} {ps : List (LQ × Value)} (h : OwnC w base v ps) (hb : b' ≤ base) : OwnC w b' v ps :=
  ⟨owns_lower h.own hb, fun p hp => owns_lower (h.gates p hp) hb, h.apart, h.each⟩
theorem load_circ {w : World} {b : Nat} {x0 x1 : Value} (c0 : w.cell? ⟨b, 0, none⟩ = some x0) (c1 : w.cell? ⟨b, 1, none⟩ = some x1) : (loadVar 24 ⟨b, 0, none⟩).run Tryd.prog w = .ok (.agg #[x0, x1]) w := by
  go_simp
theorem results_circ {fn : Func} {p u : Tmp} (h : fn.results = #[.cell p 24, .tmp u]) {tmps : Array Value} {w : World} {b : Nat} {x0 x1 : Value} (hp : tmps.getD p undef = .pointer (some ⟨b, 0, none⟩)) (c0 : w.cell? ⟨b, 0, none⟩ = some x0) (c1 : w.cell? ⟨b, 1, none⟩ = some x1) :
    (results fn tmps).run Tryd.prog w = .ok (.tuple #[.agg #[x0, x1], tmps.getD u undef]) w := by
  rw [results_cell_tmp h, hp]
  simp [asAddr, Result.andThen, load_circ c0 c1]
theorem set_two {w : World} {b : Nat} {x0 x1 y0 y1 : Value} (c0 : w.cell? ⟨b, 0, none⟩ = some x0) (c1 : w.cell? ⟨b, 1, none⟩ = some x1) : ((w.setCell ⟨b, 0, none⟩ y0).setCell ⟨b, 1, none⟩ y1).cell? ⟨b, 0, none⟩ = some y0 ∧ ((w.setCell ⟨b, 0, none⟩ y0).setCell ⟨b, 1, none⟩ y1).cell? ⟨b, 1, none⟩ = some y1 := by
  have n01 : (⟨b, 0, none⟩ : Addr) ≠ ⟨b, 1, none⟩ := by intro e; simp at e
  refine ⟨?_, ?_⟩
  · rw [World.cell?_setCell_other _ _ _ _ n01.symm]
    exact World.cell?_setCell_same _ _ _ c0
  · have h : (w.setCell ⟨b, 0, none⟩ y0).cell? ⟨b, 1, none⟩ = some x1 := by rw [World.cell?_setCell_other _ _ _ _ n01]; exact c1
    exact World.cell?_setCell_same _ _ _ h
theorem list_size (s : ByteArray) : s.data.toList.length = s.size := by simp

set_option maxHeartbeats 2000000 in
set_option maxRecDepth 100000 in
theorem rlines_any (s : ByteArray) (M : Int) (w : World) (hs : s.size ≤ 4096) (hM : w.cell? ⟨0, 0, none⟩ = some (.int .i64 M)) :
    Calls Tryd.prog 10 #[.string s] w fun e w' => Below w.heap.size w w' ∧
      ((∃ n : Nat, textQ s.data.toList = .error n ∧ 1 ≤ n ∧ n ≤ 4097 ∧ e = .returned (.tuple #[.agg #[.int .i64 0, .slice none 0 0], .int .i64 (n : Int)])) ∨
       (∃ c v ps, textQ s.data.toList = .ok c ∧ c.upTo 4096 ∧ e = .returned (.tuple #[.agg #[.int .i64 c.log, v], .int .i64 0]) ∧ OwnC w' w.heap.size v ps ∧ c.layers = ps.map (·.1))) := by
  have HML := hid (World.block_lt_of_cell? w _ hM)
  have HM := hid hM
  clear hM
  go_enter Tryd.func10, Tryd.ntmps10
  go_wp2_with fail
  have hA := (Below.refl w.heap.size w).alloc (Nat.le_refl _) (.cells #[.int .i64 0, .slice none 0 0] 24)
  have hR := RC.start w 24
  have hP := PS.start (w.alloc (.cells #[.int .i64 0, .slice none 0 0] 24)) 24
  have hA2 := (Below.refl _ (w.alloc (.cells #[.int .i64 0, .slice none 0 0] 24))).alloc (Nat.le_refl _) (.cells #[.int .i64 0, .slice none 0 0] 24)
  have HB0 := hid (hA.trans (hA2.mono hA.size))
  have HR0 := hid (hR.kept hA2 hR.lt)
  rw [show (w.alloc (.cells #[.int .i64 0, .slice none 0 0] 24)).heap.size = w.heap.size + 1 from by simp] at hP
  have HP0 := hid hP
  clear hA hA2 hR hP
  obtain ⟨B, hB⟩ : ∃ B, w.heap.size = B := ⟨_, rfl⟩
  rw [hB] at HB0 HR0 HP0 HML ⊢
  have HBE := hid hB
  clear hB
  generalize (w.alloc (.cells #[.int .i64 0, .slice none 0 0] 24)).alloc (.cells #[.int .i64 0, .slice none 0 0] 24) = W0 at HB0 HR0 HP0 ⊢
  go_loopg [0, 5] s.size (fun q a i wr => ∃ (t : Nat) (r : ByteArray) (c : CQ) (v : Value) (ps : List (LQ × Value)), q = r.size ∧ a = .string r ∧ i = .int .i64 ((t : Int) + 1) ∧ t + r.size ≤ s.size ∧ Hid (PS (B + 1) wr (B + 1) (B + 2) c v ps) ∧ Hid (textFrom t c r.data.toList = textQ s.data.toList) ∧ Hid (c.upTo t) ∧ Hid (RC wr B) ∧ Hid (Below B w wr))
  case atStart => exact ⟨0, s, _, _, _, rfl, rfl, by simp, by omega, HP0, hid (textFrom_all _), hid ⟨Nat.le_refl 0, by simp⟩, HR0, HB0⟩
  case round =>
    clear HP0 HB0 HR0
    obtain ⟨t, r, c, v, ps, rfl, rfl, rfl, htr, HP, HT, HU, HR, HB⟩ := hrel
    have r0 := HR.out.c0
    have r1 := HR.out.c1
    have f0 := HR.out.f0
    have f1 := HR.out.f1
    by_cases hstop : t ≠ 0 ∧ r.data.toList = []
    · have e1 : (((t : Int) + 1) == 1) = false := beq_eq_false_iff_ne.2 (by omega)
      have e2 : r.toList = [] := by rw [Lib.toList_data]; exact hstop.2
      have b0 := HP.out.box0
      have b1 := HP.out.box1
      have HOC : Hid (OwnC (wr.setCell ⟨B, 0, none⟩ (.int .i64 c.log)) (B + 2) v ps) := hid (HP.out.own.setBelow (by show B < B + 2; omega) _)
      have HOD : Hid (∀ u, OwnC ((wr.setCell ⟨B, 0, none⟩ (.int .i64 c.log)).setCell ⟨B, 1, none⟩ u) (B + 2) v ps) := hid (fun u => HOC.out.setBelow (by show B < B + 2; omega) _)
      obtain ⟨va, vc, hve⟩ : ∃ va vc, v = .slice va ps.length vc := ⟨_, _, HP.out.own.row.1⟩
      obtain ⟨pk, hpk⟩ : ∃ x, ps.length = x := ⟨_, rfl⟩
      rw [hpk] at hve
      subst hve
      have HS := hid hstop
      clear hstop hpk HOC
      go_wp2_with fail
      refine bodyPost_ret (results_circ rfl rfl (set_two r0 r1).1 (set_two r0 r1).2) rfl ?_
      have ht := HT.out
      rw [HS.out.2, textFrom_end _ _ (by have := HS.out.1; omega)] at ht
      rw [HBE.out]
      refine ⟨(HB.out.setCell (Nat.le_refl _) _).setCell (Nat.le_refl _) _, .inr ⟨c, _, ps, ht.symm, ⟨Nat.le_trans HU.out.1 (by omega), fun l hl => Nat.le_trans (HU.out.2 l hl) (by omega)⟩, rfl, (HOD.out _).lower (by omega), HP.out.lay⟩⟩
    · have hh : ((((t : Int) + 1) == 1) = true) ∨ (((((t : Int) + 1) == 1) = false) ∧ (r.toList == []) = false) := by
        by_cases ht : t = 0
        · exact .inl (by rw [ht]; rfl)
        · exact .inr ⟨beq_eq_false_iff_ne.2 (by omega), beq_eq_false_iff_ne.2 (fun e => hstop ⟨ht, by rw [← Lib.toList_data]; exact e⟩)⟩
      have hM1 := (HB.out.cell (p := ⟨0, 0, none⟩) HML.out).trans HM.out
      have HCU := hid (Tryd.strings_Cut r ⟨#[10]⟩ M wr (by omega) hM1)
      have HS : Hid (t = 0 ∨ r.data.toList ≠ []) := hid (by by_cases ht : t = 0; exact .inl ht; exact .inr fun e => hstop ⟨ht, e⟩)
      clear hstop hM1
      cases hc : cutL 10 r.data.toList with
      | none =>
        rw [cut_none hc] at HCU
        have HN : Hid (textQ s.data.toList = .error (t + 1)) := hid (by rw [← HT.out]; exact textFrom_last hc HS.out)
        clear hc
        rcases hh with e1 | ⟨e1, e2⟩
        all_goals
          go_wp2_with fail
          refine HCU.out.mono ?_
          rintro e w1 ⟨rfl, nq, hw1⟩
          have hbq : Below wr.heap.size wr w1 := by rw [hw1]; exact ⟨rfl, rfl, rfl, Nat.le_refl _, fun _ _ => rfl⟩
          have HR1 := hid (HR.out.kept hbq HR.out.lt)
          have HB1 := hid (HB.out.trans (hbq.mono (by have := HB.out.size; rw [HBE.out] at this; exact this)))
          clear hbq hw1 r0 r1 f0 f1
          have r0 := HR1.out.c0
          have r1 := HR1.out.c1
          have f0 := HR1.out.f0
          have f1 := HR1.out.f1
          go_wp2_with fail
          refine bodyPost_ret (results_circ rfl rfl (set_two r0 r1).1 (set_two r0 r1).2) rfl ?_
          rw [HBE.out]
          refine ⟨(HB1.out.setCell (Nat.le_refl _) _).setCell (Nat.le_refl _) _, .inl ⟨t + 1, HN.out, by omega, by omega, by simp⟩⟩
      | some pr =>
        obtain ⟨p, rr⟩ := pr
        obtain ⟨pb, rfl⟩ : ∃ x : ByteArray, p = x.data.toList := ⟨⟨p.toArray⟩, by simp⟩
        obtain ⟨rb, rfl⟩ : ∃ x : ByteArray, rr = x.data.toList := ⟨⟨rr.toArray⟩, by simp⟩
        rw [cut_some hc] at HCU
        have hlen := cut_length hc
        rw [list_size, list_size, list_size] at hlen
        have HTL := hid (textFrom_line (i := t) (c := c) hc)
        clear hc
        rcases hh with e1 | ⟨e1, e2⟩
        all_goals
          go_wp2_with fail
          refine HCU.out.mono ?_
          rintro e w1 ⟨rfl, nq, hw1⟩
          have hbq : Below wr.heap.size wr w1 := by rw [hw1]; exact ⟨rfl, rfl, rfl, Nat.le_refl _, fun _ _ => rfl⟩
          have HR1 := hid (HR.out.kept hbq HR.out.lt)
          have HP1 := hid (HP.out.kept hbq)
          have HB1 := hid (HB.out.trans (hbq.mono (by have := HB.out.size; rw [HBE.out] at this; exact this)))
          clear hbq hw1 r0 r1 f0 f1
          go_wp2_with fail
          refine (rline_any (B + 1) (B + 1) (B + 2) t c v ps pb M w1 (by omega) (by omega) (Nat.le_trans (HP1.out.upTo HU.out).1 (by omega)) (fun p hp => Nat.le_trans ((HP1.out.upTo HU.out).2 p hp) (by omega)) ((HB1.out.cell (p := ⟨0, 0, none⟩) HML.out).trans HM.out) HP1.out).mono ?_
          rintro e w2 ⟨hb2, hcase⟩
          have HR2 := hid (HR1.out.kept hb2 (Nat.lt_succ_self _))
          have HB2 := hid (HB1.out.trans (hb2.mono (Nat.le_succ _)))
          have r0 := HR2.out.c0
          have r1 := HR2.out.c1
          have f0 := HR2.out.f0
          have f1 := HR2.out.f1
          clear hb2 HP HP1 HR1 HB1 HR HB HCU
          rcases hcase with ⟨hno, rfl⟩ | ⟨c2, v2, ps2, hyes, rfl, HP2⟩
          · rw [hno] at HTL
            have HN : Hid (textQ s.data.toList = .error (t + 1)) := hid (by rw [← HT.out]; exact HTL.out)
            clear hno HTL
            go_wp2_with fail
            refine bodyPost_ret (results_circ rfl rfl (set_two r0 r1).1 (set_two r0 r1).2) rfl ?_
            rw [HBE.out]
            refine ⟨(HB2.out.setCell (Nat.le_refl _) _).setCell (Nat.le_refl _) _, .inl ⟨t + 1, HN.out, by omega, by omega, by simp⟩⟩
          · rw [hyes] at HTL
            have HU2 := hid (line_upTo HU.out hyes)
            have HPP := hid HP2
            clear hyes HP2
            go_wp2_with fail
            go_roundg (rb.size)
            case measure => go_light; omega
            case rel => exact ⟨t + 1, rb, c2, v2, ps2, rfl, rfl, by go_num, by omega, HPP, hid (by rw [← HT.out]; exact HTL.out.symm), HU2, HR2, HB2⟩

end Go.Proofs.YtnnnlalhhhhaeaaDoor
