/-
  A contract of tallyref's Rounds: for every list of one to three tables of like size and as many draws as they have variables: the right rounds; it makes new rows and writes nothing that was there.
-/
import Derived.Test.YtoogpkcpheannaaDoorRefRound
import Derived.Test.YtoogpkcpheannaaDoorSumP
namespace Go.Proofs.YtoogpkcpheannaaDoor
open Go.RowKit
set_option linter.unusedVariables false
attribute [local go_sem ↓] Go.wp_at_zero Go.wp_at_succ

theorem Nums_one (t : Nat) (h : t ≤ 1000) : Nums (fun _ => (t : Int)) := fun _ => by dsimp only; omega
theorem part_is (F : Nat → Nat → Int) (D : Nat → Int) (m n k t : Nat) (hk : k < n) : ofK (partS F (catF k D (fun _ => (t : Int))) (k + 1) (n - 1 - k) m (2 ^ (n - 1 - k))) = rightF F m n D k t := by
  unfold rightF
  rw [part_right F (catF k D (fun _ => (t : Int))) m n k (kn t) (fun j => kk (D j)) hk (fun j hj => by rw [catF, if_pos hj]) (by rw [catF, if_neg (by omega)]; rfl)]
theorem row_num (w : World) (x : Int) (t : TypeId) : Row (w.alloc (.cells #[.int .u64 x] t)) w.heap.size 0 1 (fun _ => x) := fun j hj => by
  rw [Nat.zero_add, World.cell?_alloc_new]
  match j, hj with
  | 0, _ => rfl
theorem below_new (w : World) (x : Obj) : Below w.heap.size w (w.alloc x) := (Below.refl _ w).alloc (Nat.le_refl _) _

theorem OwnL.congr {w : World} {base : Nat} {v : Value} {n N : Nat} {a c : Nat → Nat} {F G : Nat → Nat → Int} (h : OwnL w base v n N a c F) (e : ∀ i j, i < n → j < N → F i j = G i j) : OwnL w base v n N a c G :=
  ⟨h.own, h.apart, h.lt, fun i hi => (h.row i hi).congr fun j hj => e i j hi hj⟩
theorem OwnL.far {w : World} {base : Nat} {v : Value} {n N b : Nat} {a c : Nat → Nat} {F : Nat → Nat → Int} (h : OwnL w base v n N a c F) (hb : w.heap.size ≤ b) : v.ownBlock ≠ some b := fun e => by have := (h.own.lt b e).2; omega
theorem own_at {w : World} {base b o n cap : Nat} {f : Nat → Int} (h : Own w base (.slice (some ⟨b, o, none⟩) n cap) n f) : o = 0 ∧ base ≤ b ∧ b < w.heap.size := by
  rcases h.2 with ⟨h0, _⟩ | ⟨g, cap', cur, hv, hb, hg, _⟩
  · cases h0
  · simp only [Value.slice.injEq, Option.some.injEq, Addr.mk.injEq] at hv
    obtain ⟨⟨rfl, rfl, _⟩, _⟩ := hv
    exact ⟨rfl, hb, (Array.getElem?_eq_some_iff.1 hg).1⟩

set_option maxHeartbeats 8000000 in
set_option maxRecDepth 100000 in
theorem rrounds_any (B o m cap : Nat) (bv ov cv : Nat → Nat) (F : Nat → Nat → Int) (n N : Nat) (ad : Option Addr) (cd : Nat) (D : Nat → Int) (w : World) (hm1 : 1 ≤ m) (hm : m ≤ 3) (hn : n ≤ 8) (hN : N = 2 ^ n) (hl : Tabs w B o m bv ov cv N F) (hv : ∀ i, i < m → Nums (F i)) (hd : PRow w ad n D) (hcd : n ≤ cd) (hD : Nums D) :
    Calls Tryd.prog 19 #[.slice (some ⟨B, o, none⟩) m cap, .slice ad n cd] w fun e w' => ∃ v a c, e = .returned v ∧ OwnL w' w.heap.size v n (m + 1) a c (rightF F m n D) ∧ Below w.heap.size w w' := by
  have hN1 : 1 ≤ N := by rw [hN]; exact Nat.one_le_two_pow
  obtain ⟨i0, hi, hz0, hz1, hz2⟩ := info_parts Tryd.infoO
  have HI := hid (And.intro hi (And.intro hz0 (And.intro hz1 hz2)))
  obtain ⟨i1, hi1, hy0, hy1, hy2⟩ := info_parts Tryd.infoL
  have HJ := hid (And.intro hi1 (And.intro hy0 (And.intro hy1 hy2)))
  have HL := hid hl
  have HV := hid hv
  have HD := hid hd
  have HDD := hid hD
  have HN := hid hN
  clear hi hz0 hz1 hz2 hi1 hy0 hy1 hy2 hl hv hd hD hN
  go_enter Tryd.func19, Tryd.ntmps19
  go_wp2_with fail
  go_loopg [5, 6] n (fun q x i wr => ∃ (k : Nat) (v : Value) (a c : Nat → Nat), k ≤ n ∧ q = n - k ∧ x = v ∧ i = .int .i64 (k : Int) ∧ Hid (OwnL wr w.heap.size v k (m + 1) a c (rightF F m n D)) ∧ Hid (Below w.heap.size w wr))
  case atStart => exact ⟨0, _, fun _ => 0, fun _ => 0, by omega, rfl, rfl, rfl, hid (OwnL.nil _ _ _ _ _ _), hid (Below.refl _ _)⟩
  case round =>
    obtain ⟨k, v, a, c, hk, rfl, rfl, rfl, HO, HB⟩ := hrel
    by_cases hlt : k < n
    · go_wp2_with fail
      obtain ⟨wo, rfl⟩ : ∃ x, x = wr := ⟨wr, rfl⟩
      go_loopg [7, 8] (m + 1) (fun q x i ws => ∃ (t : Nat) (u : Value), t ≤ m + 1 ∧ q = m + 1 - t ∧ x = u ∧ i = .int .i64 (t : Int) ∧ Hid (Own ws wo.heap.size u t (rightF F m n D k)) ∧ Hid (Below wo.heap.size wo ws))
      case atStart => exact ⟨0, _, by omega, rfl, rfl, rfl, hid (Own.nil _ _ _), hid (Below.refl _ _)⟩
      case round =>
        obtain ⟨t, u, ht, rfl, rfl, rfl, HU, HBS⟩ := hrel
        by_cases hlt2 : t < m + 1
        · obtain ⟨bd, od, rfl, hrd⟩ := HD.out (by omega)
          have hBw := HB.out.trans (HBS.out.mono HB.out.size)
          have hbd : bd < wr.heap.size := Nat.lt_of_lt_of_le (hrd.lt (by omega)) hBw.size
          have hrd2 : Row wr bd od k D := fun j hj => hrd.kept hBw (hrd.lt (by omega)) j (by omega)
          have HTB := hid (HL.out.kept hBw hN1)
          clear hrd hBw
          have t0 : (t : Int) ≤ (m : Int) := by omega
          have wt : IntKind.u64.wrap (t : Int) = (t : Int) := by rw [IntKind.wrap_u64]; omega
          have k0 : (0 : Int) ≤ (k : Int) := by omega
          have k1 : (k : Int) ≤ (cd : Int) := by omega
          go_wp2_with fail
          have hb1 := below_new wr (.cells #[.int .u64 (t : Int)] 23)
          have hr1 := row_num wr (t : Int) 23
          have hs1 : (wr.alloc (.cells #[.int .u64 (t : Int)] 23)).heap.size = wr.heap.size + 1 := by simp
          generalize wr.alloc (.cells #[.int .u64 (t : Int)] 23) = W at hb1 hr1 hs1 ⊢
          rw [← hs1]
          have hb2 := below_new W (.cells #[.slice (some ⟨bd, od, none⟩) k cd, .slice (some ⟨wr.heap.size, 0, none⟩) 1 1] 22)
          have HB12 := hid (hb1.trans (hb2.mono hb1.size))
          have HR1 := hid (hr1.kept hb2 (hr1.lt (by omega)))
          have HRD := hid (hrd2.kept HB12.out hbd)
          clear hb1 hr1 hs1 hb2 hrd2 hbd
          refine (joined_two W.heap.size 2 (some ⟨bd, od, none⟩) (some ⟨wr.heap.size, 0, none⟩) k cd 1 1 D (fun _ => (t : Int)) _ (by rw [World.cell?_alloc_new]; rfl) (by rw [World.cell?_alloc_new]; rfl) (PRow.of HRD.out) (PRow.of HR1.out) (by omega) (by omega)).mono ?_
          rintro e w2 ⟨vj, rfl, hoj, hbj⟩
          obtain ⟨aj, cj, rfl, hpj, _⟩ := hoj.is
          have hB3 := HB12.out.trans (hbj.mono HB12.out.size)
          have htb := HTB.out.kept hB3 hN1
          have hpa := rpart_any B o m cap bv ov cv F aj (k + 1) cj (n - 1 - k) N (2 ^ (n - 1 - k)) _ w2 hm1 hm (by omega) (by rw [HN.out]; congr 1; omega) rfl htb.cell htb.row HV.out hpj (Nums_catp k HDD.out (Nums_one t (by omega)))
          rw [part_is F D m n k t hlt] at hpa
          obtain ⟨y, hy⟩ : ∃ y, rightF F m n D k t = y := ⟨_, rfl⟩
          rw [hy] at hpa
          have HY := hid hy
          have HPA := hid hpa
          have HB3 := hid hB3
          clear hoj hbj hpj hB3 htb hpa hy HB12 HR1 HRD HTB
          go_wp2_with fail
          refine (HPA.out).mono ?_
          rintro e w3 ⟨rfl, hb3⟩
          have hB4 := HB3.out.trans (hb3.mono HB3.out.size)
          have HO4 := hid (HU.out.kept hB4)
          have HB4 := hid (HBS.out.trans (hB4.mono HBS.out.size))
          clear hb3 hB4 HPA HB3
          go_wp2_with (at_builtin; refine wpList_append_lies _ rfl _ _ 22 rfl wo.heap.size 23 i0 (.int .u64 0) 1 8 Tryd.underlying22 HI.out.1 HI.out.2.1 HI.out.2.2.1 HI.out.2.2.2 rfl (by decide) _ _ _ rfl (World.ownsRow.alloc HO4.out _) ⟨w3.heap.size, 0, none⟩ 1 1 [.int .u64 y] rfl rfl ?qc2 ?qc3 ?qc4 ?qc5 ?qc6 ?qc7 (w3.heap.size + 1) ?qc8 ?_)
          case qc2 =>
            intro j u hj
            match j, hj with
            | 0, hj => simp at hj; subst hj; simp [Addr.add]
          case qc3 => intro u hu; simp at hu; subst hu; rfl
          case qc4 => omega
          case qc5 => unfold maxLen; omega
          case qc6 => omega
          case qc7 => have := HB4.out.size; simp; omega
          case qc8 => simp
          intro g2 c2 w6 hown2 hgrow2 hat2 hlt3
          have HO6 : Hid (Own w6 wo.heap.size (.slice (some ⟨g2, 0, none⟩) (t + 1) c2) (t + 1) (rightF F m n D k)) := hid (by
            rw [cellsOf_snoc] at hown2
            exact Own.congr hown2 fun j hj => by
              unfold catF
              by_cases e : j < t
              · rw [if_pos e]
              · rw [if_neg e, show j = t from by omega, HY.out])
          have HB6 : Hid (Below wo.heap.size wo w6) := hid ((HB4.out.alloc HB4.out.size _).grown hgrow2 (by have := HB4.out.size; simp; omega) (by intro t ht; exact (World.ownsRow.lt HO4.out t ht).1))
          clear hown2 hgrow2 hat2 hlt3
          go_wp2_with fail
          go_roundg (m + 1 - (t + 1))
          case measure => go_light; omega
          case rel => exact ⟨t + 1, _, by omega, rfl, rfl, by go_num, HO6, HB6⟩
        · have e : t = m + 1 := by omega
          subst e
          obtain ⟨au, cu, eu, hpu, _⟩ := HU.out.is
          obtain ⟨bu, ou, eu2, hru⟩ := hpu (by omega)
          subst eu2
          have hou := HU.out
          rw [eu] at hou
          obtain ⟨rfl, hbu, hbu2⟩ := own_at hou
          have HRU := hid hru
          have HO2 := hid (HO.out.kept HBS.out)
          have HNE := hid (HO.out.far hbu)
          subst eu
          have HBW := hid (HB.out.trans (HBS.out.mono HB.out.size))
          have t1 : ¬ (((m + 1 : Nat) : Int) ≤ (m : Int)) := by omega
          clear hpu hru hou
          go_wp2_with (at_builtin; refine wpList_append_lies _ rfl _ _ 27 rfl w.heap.size 22 i1 (.slice none 0 0) 1 24 Tryd.underlying27 HJ.out.1 HJ.out.2.1 HJ.out.2.2.1 HJ.out.2.2.2 rfl (by decide) _ _ _ rfl (World.ownsRow.alloc HO2.out.own _) ⟨wr.heap.size, 0, none⟩ 1 1 [.slice (some ⟨bu, 0, none⟩) (m + 1) cu] rfl rfl ?qc2 ?qc3 ?qc4 ?qc5 ?qc6 ?qc7 (wr.heap.size + 1) ?qc8 ?_)
          case qc3 => rfl
          case qc5 => unfold maxLen; omega
          case qc6 => omega
          case qc7 => have := HBW.out.size; simp; omega
          intro g2 c2 w6 hown2 hgrow2 hat2 hlt3
          have hbn := below_new wr (.cells #[.slice (some ⟨bu, 0, none⟩) (m + 1) cu] 22)
          have HO6 : Hid (OwnL w6 w.heap.size (.slice (some ⟨g2, 0, none⟩) (k + 1) c2) (k + 1) (m + 1) (putA a k bu) (putA c k cu) (rightF F m n D)) := hid (((HO2.out.kept hbn).next hown2 hgrow2 (by simpa using hat2) (by simp; omega) HNE.out (HRU.out.kept hbn hbu2)).congr fun i j _ _ => putF_same _ k i j)
          have HB6 : Hid (Below w.heap.size w w6) := hid ((HBW.out.alloc HBW.out.size _).grown hgrow2 (by have := HBW.out.size; simp; omega) (by intro t ht; exact (World.ownsRow.lt HO2.out.own t ht).1))
          clear hown2 hgrow2 hat2 hlt3 hbn
          go_wp2_with fail
          go_roundg (n - (k + 1))
          case measure => go_light; omega
          case rel => exact ⟨k + 1, _, _, _, by omega, rfl, rfl, by go_num, HO6, HB6⟩
    · have e : k = n := by omega
      subst e
      go_wp2_with fail
      go_ret
      exact ⟨_, _, _, rfl, HO.out, HB.out⟩

end Go.Proofs.YtoogpkcpheannaaDoor
