/-
  A contract of tallyref's ReadCircuit, for every text; what it makes is new.
-/
import Derived.Test.YtnnnlalhhhhaeaaDoorRefPc
import Derived.Test.YtnnnlalhhhhaeaaDoorCircS2
import Derived.Test.YtnnnlalhhhhaeaaDoorRefC2
import Derived.Deep.DeepCutAuto
import Derived.Deep.CutBlock
import Derived.Test.YtnnnlalhhhhaeaaDoorRefRj
namespace Go.Proofs.YtnnnlalhhhhaeaaDoor
open Go.RowKit Go.PlainAid
set_option linter.unusedVariables false
attribute [local go_sem ↓] Go.wp_at_zero Go.wp_at_succ

theorem Tryd.infoI3 : (Tryd.prog.info? 3).map (fun i => (i.zero, i.size, i.bytes)) = some (some (.int .i64 0), 1, 8) := by kernel_rfl
/-- What is read of all lines: those ahead of the last piece, and whether that is empty. -/
theorem text_lines (s : List UInt8) (Q : List (List UInt8)) (z : List UInt8) (h : piecesL 10 s = Q ++ [z]) : textQ s = if z = [] ∧ 1 ≤ Q.length then linesQ 0 ⟨0, []⟩ Q else match linesQ 0 ⟨0, []⟩ Q with | .ok _ => .error (Q.length + 1) | .error n => .error n := by
  unfold textQ
  simp only [h, List.getLast_append, List.dropLast_concat, List.length_append, List.length_singleton]
  simp
  rfl
theorem strF_mem {L : List ByteArray} {j : Nat} (h : j < L.length) : strF L j ∈ L := by
  simp [strF, h]

/-- A line that is wrong, or the last piece that is not empty. -/
theorem text_fail {s : List UInt8} {Q : List (List UInt8)} {z line : List UInt8} {t : Nat} {c : CQ} (h : piecesL 10 s = Q ++ [z]) (ht : t ≤ Q.length) (hl : t < Q.length → Q[t]? = some line) (hi : linesQ t c (Q.drop t) = linesQ 0 ⟨0, []⟩ Q) (hw : t = Q.length → ¬ (z = [] ∧ 1 ≤ Q.length)) (hb : t < Q.length → (lineQ line).bind (stepQ t c) = none) : textQ s = .error (t + 1) := by
  rw [text_lines s Q z h]
  by_cases e : t < Q.length
  · have hd : Q.drop t = line :: Q.drop (t + 1) := by
      rw [List.drop_eq_getElem_cons e]
      have := hl e
      rw [List.getElem?_eq_getElem e] at this
      injection this with this
      rw [this]
    have : linesQ 0 ⟨0, []⟩ Q = .error (t + 1) := by rw [← hi, hd, linesQ, hb e]
    rw [this]
    split <;> rfl
  · have e2 : t = Q.length := by omega
    rw [if_neg (hw e2), ← hi, e2, List.drop_length, linesQ]
theorem text_line {Q : List (List UInt8)} {line : List UInt8} {t : Nat} {c c' : CQ} (hl : Q[t]? = some line) (hi : linesQ t c (Q.drop t) = linesQ 0 ⟨0, []⟩ Q) (hb : (lineQ line).bind (stepQ t c) = some c') : linesQ (t + 1) c' (Q.drop (t + 1)) = linesQ 0 ⟨0, []⟩ Q := by
  obtain ⟨e, hl⟩ := List.getElem?_eq_some_iff.1 hl
  rw [← hi, List.drop_eq_getElem_cons e, linesQ, hl, hb]
theorem text_end {s : List UInt8} {Q : List (List UInt8)} {z : List UInt8} {c : CQ} (h : piecesL 10 s = Q ++ [z]) (hi : linesQ Q.length c (Q.drop Q.length) = linesQ 0 ⟨0, []⟩ Q) (hw : z = [] ∧ 1 ≤ Q.length) : textQ s = .ok c := by
  rw [text_lines s Q z h, if_pos hw, ← hi, List.drop_length, linesQ]
/-- The numbers of a line's words, -1 where there is none. -/
def smlF (P : List ByteArray) (j : Nat) : Int := smlB (strF P (j + 1))
theorem smlF_all {P : List ByteArray} {m : Nat} (hm : P.length = m + 1) (h : ∀ j, j < m → 0 ≤ smlF P j) : allN P := fun j hj e => by
  have := h j (by omega)
  rw [smlF, smlB, e] at this
  simp at this
theorem smlF_num {P : List ByteArray} {m : Nat} (hm : P.length = m + 1) (h : allN P) (j : Nat) (hj : j < m) : smlF P j = numsB (fun j => strF P (j + 1)) j := by
  rw [smlF, smlB, h.at j (by omega)]
  rfl
theorem smlF_bad {P : List ByteArray} {m : Nat} {line : List UInt8} (hm : P.length = m + 1) (hp : P.map (·.data.toList) = piecesL 32 line) (h : ¬ ∀ j, j < m → 0 ≤ smlF P j) : lineQ line = none := by
  refine line_bad hp ?_
  apply Classical.byContradiction
  intro hc
  apply h
  intro j hj
  rw [smlF, smlB]
  cases e : numB (strF P (j + 1)) with
  | none => exact absurd ⟨j, by omega, e⟩ hc
  | some x =>
    have h3 := (numB_rng e).1
    simpa using h3
/-- A row of small numbers of the call's own. -/
def OwnIr (w : World) (base : Nat) (v : Value) (k : Nat) (f : Nat → Int) : Prop := w.ownsRow base 3 1 v k ((List.range k).map fun j => Value.int .i64 (f j))
theorem inews (w : World) (x : Int) (t : TypeId) : ∀ j u, [Value.int .i64 x][j]? = some u → (w.alloc (.cells #[.int .i64 x] t)).cell? ((⟨w.heap.size, 0, none⟩ : Addr).add j) = some u := by
  intro j u hj
  have hadd : (⟨w.heap.size, 0, none⟩ : Addr).add j = ⟨w.heap.size, j, none⟩ := by unfold Addr.add; split <;> simp_all
  rw [hadd, World.cell?_alloc_new]
  simpa using hj
theorem ione (x : Int) : ∀ u ∈ [Value.int .i64 x], u.oneCell' = true := by intro u hu; simp at hu; subst hu; rfl

/-- What is answered: the circuit that is read, its place of error, its error; the circuit is new. -/
def readP (s : ByteArray) (w : World) (e : Ending) (w' : World) : Prop := Below w.heap.size w w' ∧
  ∃ (c : CQ) (at' : Nat) (x : Int) (v : Value) (ps : List (LQ × Value)), parseE s.data.toList c at' x ∧ c.upTo 4097 ∧ at' ≤ 4098 ∧ e = .returned (.tuple #[.agg #[.int .i64 c.log, v], .int .i64 (at' : Int), .int .i64 x]) ∧ OwnC w' w.heap.size v ps ∧ c.layers = ps.map (·.1)
theorem OwnIr.form {w : World} {base : Nat} {v : Value} {k : Nat} {f : Nat → Int} (h : OwnIr w base v k f) : ∃ na nc, v = .slice na k nc ∧ ∀ j, j < k → ∃ nb, na = some ⟨nb, 0, none⟩ ∧ w.cell? ⟨nb, j, none⟩ = some (.int .i64 (f j)) ∧ nb < w.heap.size ∧ base ≤ nb := by
  by_cases hk : k = 0
  · rcases h.2 with ⟨e, _⟩ | ⟨g, cap, cur, e, _⟩
    · exact ⟨none, 0, by rw [e, hk], fun j hj => absurd hj (by omega)⟩
    · exact ⟨_, _, e, fun j hj => absurd hj (by omega)⟩
  · obtain ⟨g, cap, e, h1, h2⟩ := World.ownsRow.form h (by omega)
    refine ⟨_, _, e, fun j hj => ⟨g, rfl, ?_, h2, h1⟩⟩
    subst e
    rw [World.ownsRow.cellAt h j (by omega)]
    simp [hj]

set_option maxHeartbeats 20000000 in
set_option maxRecDepth 100000 in
theorem rread_any (s : ByteArray) (w : World) : Calls Tryd.prog 6 #[.string s] w (readP s w) := by
  have HSZ := hid (list_size s)
  have HZ : Hid ((⟨0, []⟩ : CQ).upTo 4097) := hid ⟨by simp, by simp⟩
  have hA := (Below.refl w.heap.size w).alloc (Nat.le_refl _) (.cells #[.int .i64 0, .slice none 0 0] 24)
  have hR := RC.start w 24
  have hs0 : (w.alloc (.cells #[.int .i64 0, .slice none 0 0] 24)).heap.size = w.heap.size + 1 := by simp
  have HRL := fun h => hid (rpieces_any s 10 (w.alloc (.cells #[.int .i64 0, .slice none 0 0] 24)) h)
  rw [hs0, show (((10 : UInt8).toNat : Nat) : Int) = 10 from rfl] at HRL
  have HB0 := hid hA
  have HR0 := hid hR
  clear hA hR hs0
  by_cases hs : 4096 < s.size
  · have hsi : (4096 : Int) < (s.size : Int) := by omega
    have r0 := HR0.out.c0
    have r1 := HR0.out.c1
    have f0 := HR0.out.f0
    have f1 := HR0.out.f1
    clear HRL
    go_enter Tryd.func6, Tryd.ntmps6
    go_wp2_with fail
    refine bodyPost_ret (results_circ3 rfl rfl r0 r1) rfl ?_
    exact And.intro HB0.out ⟨⟨0, []⟩, 0, 2, .slice none 0 0, [], .inl ⟨by rw [HSZ.out]; exact hs, rfl, rfl, rfl⟩, HZ.out, by omega, rfl, OwnC.nil _ _, rfl⟩
  · have hsi : ¬ ((4096 : Int) < (s.size : Int)) := by omega
    have HRL := HRL (by omega)
    go_enter Tryd.func6, Tryd.ntmps6
    go_wp2_with fail
    refine HRL.out.mono ?_
    rintro e w1 ⟨lv, L, rfl, hown, hpc, hszs, hlen, hb1⟩
    obtain ⟨B, hB⟩ : ∃ B, w.heap.size = B := ⟨_, rfl⟩
    rw [hB] at hb1 hown HR0 HB0 ⊢
    have HR1 := hid (HR0.out.kept hb1 (Nat.lt_succ_self _))
    have HB1 := hid (HB0.out.trans (hb1.mono (Nat.le_succ _)))
    have HBE := hid hB
    clear hb1 HR0 HRL hB HB0
    have hL1 : 1 ≤ L.length := by have := List.length_pos_iff.2 (piecesL_ne 10 s.data.toList); rw [← hpc, List.length_map] at this; exact this
    obtain ⟨Q, z, hqz⟩ := last_of (l := L) (by omega)
    obtain ⟨q, hq⟩ : ∃ q, Q.length = q := ⟨_, rfl⟩
    have hLq : L.length = q + 1 := by rw [hqz, List.length_append, hq]; rfl
    obtain ⟨lb, lc, hlv, hlb1, hlb2⟩ := World.ownsRow.form hown (by omega)
    have ho := hown
    unfold OwnS at ho
    rw [hLq] at ho hlv hlen
    subst hlv
    have cz : w1.cell? ⟨lb, q, none⟩ = some (.string z) := by rw [ho.cellAt q (by omega), hqz, ← hq]; simp
    have HPC : Hid (piecesL 10 s.data.toList = Q.map (·.data.toList) ++ [z.data.toList]) := hid (by rw [← hpc, hqz]; simp)
    have HTX := hid (text_lines _ _ _ HPC.out)
    have HROW : Hid (∀ j, j < q + 1 → w1.cell? ⟨lb, j, none⟩ = some (.string (strF L j))) := hid (fun j hj => by rw [ho.cellAt j (by omega)]; simp [strF, show j < L.length by omega])
    have HLS : Hid (∀ j, j < q + 1 → (strF L j).size ≤ 4096) := hid (fun j hj => hszs _ (strF_mem (by omega)))
    have HQL : Hid (∀ j, j < q → (Q.map (·.data.toList))[j]? = some (strF L j).data.toList) := hid (fun j hj => by
      have h : j < Q.length := by omega
      rw [hqz]; simp [strF, h, List.getElem?_append_left])
    have HQN := hid hq
    have hlq : lc = lc := rfl
    have hcap : q + 1 ≤ lc := by
      rcases ho.2 with ⟨e, _⟩ | ⟨_, _, _, e, _, _, hc, _⟩
      · simp at e
      · injection e with _ _ e3; omega
    clear hown hpc hszs hqz ho hLq hlq hL1 hq
    have q0 : (0 : Int) ≤ (q : Int) := by omega
    have q1 : (q : Int) < (q : Int) + 1 := by omega
    obtain ⟨wh, hwh⟩ : ∃ b : Bool, decide (z.data.toList = [] ∧ 1 ≤ q) = b := ⟨_, rfl⟩
    go_upto_region 4 with fail
    go_cut [6] (fun a6 wx => a6 = .bool wh ∧ wx = w1)
    case first =>
      by_cases hz : z.data.toList = []
      · have e1 : z.toList = [] := by rw [Lib.toList_data]; exact hz
        by_cases hq1 : 1 ≤ q
        · have e2 : (1 : Int) < (q : Int) + 1 := by omega
          have e3 : wh = true := by rw [← hwh]; exact decide_eq_true ⟨hz, hq1⟩
          go_wp2_with fail
          go_meet
          exact ⟨by rw [e3], rfl⟩
        · have e2 : ¬ (1 : Int) < (q : Int) + 1 := by omega
          have e3 : wh = false := by rw [← hwh]; exact decide_eq_false (fun h => hq1 h.2)
          go_wp2_with fail
          go_meet
          exact ⟨by rw [e3], rfl⟩
      · have e1 : (z.toList == []) = false := beq_eq_false_iff_ne.2 (by rw [Lib.toList_data]; exact hz)
        have e3 : wh = false := by rw [← hwh]; exact decide_eq_false (fun h => hz h.1)
        go_wp2_with fail
        go_meet
        exact ⟨by rw [e3], rfl⟩
    case rest =>
      obtain ⟨rfl, rfl⟩ := hcut
      obtain ⟨nl, hnl⟩ : ∃ x, (if wh = true then q else q + 1) = x := ⟨_, rfl⟩
      have ql : (q : Int) ≤ (lc : Int) := by omega
      clear HRL
      go_upto_if 34 with fail
      go_cut [5] (fun a5 wx => a5 = .slice (some ⟨lb, 0, none⟩) nl lc ∧ wx = wc)
      case first =>
        cases wh with
        | true =>
          go_wp2_with fail
          go_meet
          exact ⟨by rw [← hnl]; rfl, rfl⟩
        | false =>
          go_wp2_with fail
          go_meet
          exact ⟨by rw [← hnl]; rfl, rfl⟩
      case rest =>
        obtain ⟨rfl, hwc⟩ := hcut
        subst hwc
        clear cz q0 q1 ql
        obtain ⟨i0, hi, hz0, hz1, hz2⟩ := info_parts Tryd.infoI3
        have HI := hid (And.intro hi (And.intro hz0 (And.intro hz1 hz2)))
        clear hi hz0 hz1 hz2
        go_wp2_with fail
        have hA2 := (Below.refl wc.heap.size wc).alloc (Nat.le_refl _) (.cells #[.int .i64 0, .slice none 0 0] 24)
        have HP0 := hid (PS.start wc 24)
        have HRC0 := hid (HR1.out.kept hA2 HR1.out.lt)
        have HBW0 := hid (HB1.out.trans (hA2.mono (Nat.le_of_lt HR1.out.lt)))
        have HROW0 : Hid (∀ j, j < q + 1 → (wc.alloc (.cells #[.int .i64 0, .slice none 0 0] 24)).cell? ⟨lb, j, none⟩ = some (.string (strF L j))) := hid (fun j hj => (hA2.cell hlb2).trans (HROW.out j hj))
        have hBc := HR1.out.lt
        have hW0 : wc.heap.size ≤ (wc.alloc (.cells #[.int .i64 0, .slice none 0 0] 24)).heap.size := hA2.size
        obtain ⟨cb, hcb⟩ : ∃ x, wc.heap.size = x := ⟨_, rfl⟩
        rw [hcb] at HP0 hlb2 hBc hW0 ⊢
        have HLC := hid hlb2
        have HBC := hid hBc
        have HW0 := hid hW0
        clear hcb hA2 HROW HR1 HB1 hlb2 hBc hW0
        generalize wc.alloc (.cells #[.int .i64 0, .slice none 0 0] 24) = W0 at HP0 HRC0 HBW0 HROW0 HW0 ⊢
        have HNL := hid hnl
        have HWH := hid hwh
        have hnq : nl ≤ q + 1 := by rw [← hnl]; split <;> omega
        clear hnl hwh
        obtain ⟨QL, hQL⟩ : ∃ x, Q.map (·.data.toList) = x := ⟨_, rfl⟩
        rw [hQL] at HPC HTX HQL
        have HQM : Hid (QL.length = q) := hid (by rw [← hQL, List.length_map, HQN.out])
        clear hQL HQN HTX
        have HC0 := hid (Below.refl cb W0)
        go_loopg [8] nl (fun g i wr => ∃ (t : Nat) (c : CQ) (v : Value) (ps : List (LQ × Value)), t ≤ q ∧ t ≤ nl ∧ g = nl - t ∧ i = .int .i64 (t : Int) ∧ Hid (PS cb wr cb (cb + 1) c v ps) ∧ Hid (linesQ t c (QL.drop t) = linesQ 0 ⟨0, []⟩ QL) ∧ Hid (c.upTo t) ∧ Hid (Below cb W0 wr))
        case atStart => exact ⟨0, _, _, _, by omega, by omega, rfl, rfl, HP0, hid rfl, hid ⟨Nat.le_refl 0, by simp⟩, HC0⟩
        case round =>
          clear HP0 HC0
          obtain ⟨t, c, v, ps, htq, htn, rfl, rfl, HP, HLQ, HU, HBL⟩ := hrel
          by_cases htl : t < nl
          · have cl := (HBL.out.cell (p := ⟨lb, t, none⟩) HLC.out).trans (HROW0.out t (by omega))
            obtain ⟨ln, hln⟩ : ∃ x, strF L t = x := ⟨_, rfl⟩
            have hls := HLS.out t (by omega)
            rw [hln] at cl hls
            have HLN := hid hln
            clear hln
            have HPI := hid (rpieces_any ln 32 wr hls)
            rw [show (((32 : UInt8).toNat : Nat) : Int) = 32 from rfl] at HPI
            have t0 : (0 : Int) ≤ (t : Int) := by omega
            have t1 : (t : Int) < (nl : Int) := by omega
            go_wp2_with fail
            refine HPI.out.mono ?_
            rintro e w2 ⟨wv, P, rfl, hown, hpc, hszs, hplen, hb2⟩
            have HP2 := hid (HP.out.kept hb2)
            have HBL2 := hid (HBL.out.trans (hb2.mono (Nat.le_trans (Nat.le_of_lt HP.out.lt) HP.out.le)))
            have hL1 : 1 ≤ P.length := by have := List.length_pos_iff.2 (piecesL_ne 32 ln.data.toList); rw [← hpc, List.length_map] at this; exact this
            obtain ⟨m, hm⟩ : ∃ m, P.length = m + 1 := ⟨P.length - 1, by omega⟩
            obtain ⟨wb, wcp, hwv, hwb1, hwb2⟩ := World.ownsRow.form hown (by omega)
            have ho := hown
            unfold OwnS at ho
            rw [hm] at ho hwv hplen
            subst hwv
            have HWR : Hid (∀ j, j < m + 1 → w2.cell? ⟨wb, j, none⟩ = some (.string (strF P j))) := hid (fun j hj => by rw [ho.cellAt j (by omega)]; simp [strF, show j < P.length by omega])
            have HWS : Hid (∀ j, j < m + 1 → (strF P j).size ≤ 4096) := hid (fun j hj => hszs _ (strF_mem (by omega)))
            have HPP := hid hpc
            have HPM := hid hm
            clear hown hpc hszs ho hL1 hb2 HP HBL HPI cl hm
            obtain ⟨ok0, hok0⟩ : ∃ b : Bool, decide (t < q) = b := ⟨_, rfl⟩
            go_upto_region 13 with fail
            go_cut [11] (fun a11 wx => a11 = .bool ok0 ∧ wx = w2)
            case first =>
              have hnl := HNL.out
              cases wh with
              | true =>
                have e3 : ok0 = true := by rw [← hok0]; exact decide_eq_true (by simp at hnl; omega)
                go_wp2_with fail
                go_meet
                exact ⟨by rw [e3], rfl⟩
              | false =>
                have hq : nl = q + 1 := by simpa using hnl.symm
                subst hq
                by_cases htq2 : t < q
                · have e3 : ok0 = true := by rw [← hok0]; exact decide_eq_true htq2
                  have e4 : (t : Int) < (q : Int) := by omega
                  clear hnl
                  go_wp2_with fail
                  go_meet
                  exact ⟨by rw [e3], rfl⟩
                · have e3 : ok0 = false := by rw [← hok0]; exact decide_eq_false htq2
                  have e4 : ¬ (t : Int) < (q : Int) := by omega
                  clear hnl
                  go_wp2_with fail
                  go_meet
                  exact ⟨by rw [e3], rfl⟩
            case rest =>
              obtain ⟨rfl, hwc2⟩ := hcut
              subst hwc2
              have HOK : Hid (ok0 = true ↔ t < q) := hid (by rw [← hok0]; simp)
              clear hok0
              go_wp2_with fail
              obtain ⟨G2, hG2⟩ : ∃ x, wc.heap.size = x := ⟨_, rfl⟩
              have HG2 := hid hG2
              rw [hG2] at hwb2
              have HWB := hid hwb2
              clear hG2 hwb2 hwb1 t0 t1
              have HO0 : Hid (OwnIr wc G2 (.slice none 0 0) 0 (smlF P)) := hid (World.ownsRow_nil wc G2 _ 1)
              have HC1 := hid (Below.refl G2 wc)
              have HK0 : Hid (ok0 = true ↔ (t < q ∧ ∀ j, j < 0 → 0 ≤ smlF P j)) := hid ⟨fun h => ⟨HOK.out.1 h, fun j hj => absurd hj (by omega)⟩, fun h => HOK.out.2 h.1⟩
              go_loopg [10, 11, 12] m (fun g a10 a11 a12 wq => ∃ (k : Nat) (okb : Bool) (a : Value), k ≤ m ∧ g = m - k ∧ a10 = a ∧ a11 = .bool okb ∧ a12 = .int .i64 ((k : Int) + 1) ∧ Hid (OwnIr wq G2 a k (smlF P)) ∧ Hid (okb = true ↔ (t < q ∧ ∀ j, j < k → 0 ≤ smlF P j)) ∧ Hid (Below G2 wc wq))
              case atStart => exact ⟨0, ok0, _, by omega, rfl, rfl, rfl, by simp, HO0, HK0, HC1⟩
              case round =>
                clear HO0 HC1 HK0 HOK
                obtain ⟨k, okb, a, hk, rfl, ha, rfl, rfl, HO, HKB, HBQ⟩ := hrel
                obtain rfl := ha.symm
                have hsz : G2 ≤ wr.heap.size := by have h1 := HBQ.out.size; have h2 := HG2.out; omega
                by_cases hkm : k < m
                · have cw := (HBQ.out.cell (p := ⟨wb, k + 1, none⟩) HWB.out).trans (HWR.out (k + 1) (by omega))
                  obtain ⟨sw, hsw⟩ : ∃ x, strF P (k + 1) = x := ⟨_, rfl⟩
                  have hss := HWS.out (k + 1) (by omega)
                  have HX : Hid (smlF P k = smlB sw) := hid (by rw [smlF, hsw])
                  rw [hsw] at cw hss
                  clear hsw
                  have k0 : (0 : Int) ≤ (k : Int) + 1 := by omega
                  have k1 : (k : Int) + 1 < (m : Int) + 1 := by omega
                  go_wp2_with fail
                  refine (rsmall_any sw wr (by omega)).mono ?_
                  rintro e w' ⟨rfl, hw⟩
                  obtain rfl := hw.symm
                  obtain ⟨x, hx⟩ : ∃ x, smlB sw = x := ⟨_, rfl⟩
                  rw [hx] at HX ⊢
                  clear hx cw k0 k1
                  go_wp2_with (at_builtin; refine wpList_append_lies _ rfl _ _ 39 rfl G2 3 i0 (.int .i64 0) 1 8 Tryd.underlying39 HI.out.1 HI.out.2.1 HI.out.2.2.1 HI.out.2.2.2 rfl (by decide) _ _ _ rfl (World.ownsRow.alloc HO.out _) ⟨wr.heap.size, 0, none⟩ 1 1 [.int .i64 x] rfl rfl (inews wr _ _) (ione _) (by omega) (by unfold maxLen; omega) (by omega) (by simp; omega) (wr.heap.size + 1) (by simp) ?_)
                  intro g2 c2 w6 hown2 hgrow2 hat2 hlt2
                  have hlist : ((List.range k).map fun j => Value.int .i64 (smlF P j)) ++ [.int .i64 x] = (List.range (k + 1)).map fun j => Value.int .i64 (smlF P j) := by rw [List.range_succ, List.map_append, List.map_singleton, HX.out]
                  rw [hlist] at hown2
                  have HO6 : Hid (OwnIr w6 G2 (.slice (some ⟨g2, 0, none⟩) (k + 1) c2) (k + 1) (smlF P)) := hid hown2
                  have HB6 : Hid (Below G2 wc w6) := hid ((HBQ.out.alloc hsz _).grown hgrow2 (by simp; omega) (by intro j hj; exact (HO.out.lt j hj).1))
                  have cn : w6.cell? ⟨g2, k, none⟩ = some (.int .i64 x) := by rw [hown2.cellAt k (by omega)]; simp [HX.out]
                  clear hown2 hgrow2 hat2 hlt2 hlist
                  have k0 : (0 : Int) ≤ (k : Int) := by omega
                  have k1 : (k : Int) < (k : Int) + 1 := by omega
                  cases okb with
                  | true =>
                    have HKN : Hid (decide (0 ≤ x) = true ↔ (t < q ∧ ∀ j, j < k + 1 → 0 ≤ smlF P j)) := hid (by
                      have h := HKB.out.1 rfl
                      constructor
                      · intro hd
                        refine ⟨h.1, fun j hj => ?_⟩
                        by_cases e : j = k
                        · rw [e, HX.out]; exact of_decide_eq_true hd
                        · exact h.2 j (by omega)
                      · intro h2
                        have := h2.2 k (by omega)
                        rw [HX.out] at this
                        exact decide_eq_true this)
                    go_wp2_with fail
                    go_roundg (m - (k + 1))
                    case measure => go_light; omega
                    case rel => exact ⟨k + 1, _, _, by omega, rfl, rfl, rfl, by go_num, HO6, HKN, HB6⟩
                  | false =>
                    have HKN : Hid (false = true ↔ (t < q ∧ ∀ j, j < k + 1 → 0 ≤ smlF P j)) := hid ⟨fun h => absurd h Bool.false_ne_true, fun h => HKB.out.2 ⟨h.1, fun j hj => h.2 j (by omega)⟩⟩
                    go_wp2_with fail
                    go_roundg (m - (k + 1))
                    case measure => go_light; omega
                    case rel => exact ⟨k + 1, _, _, by omega, rfl, rfl, rfl, by go_num, HO6, HKN, HB6⟩
                · have e : k = m := by omega
                  subst e
                  have HPW : Hid (PS cb wr cb (cb + 1) c v ps) := hid (HP2.out.kept (by rw [HG2.out]; exact HBQ.out))
                  have HBLW : Hid (Below cb W0 wr) := hid (HBL2.out.trans (HBQ.out.mono (by have h1 := HP2.out.le; have h2 := HG2.out; omega)))
                  have HRCW := hid (HRC0.out.kept HBLW.out HBC.out)
                  have cP := (HBQ.out.cell (p := ⟨wb, 0, none⟩) HWB.out).trans (HWR.out 0 (by omega))
                  obtain ⟨P0, hP0⟩ : ∃ x, strF P 0 = x := ⟨_, rfl⟩
                  rw [hP0] at cP
                  have HP0 := hid hP0
                  obtain ⟨na, nc, hae, hnc⟩ := OwnIr.form HO.out
                  obtain rfl := hae
                  have HNC := hid hnc
                  have HWG : Hid (wb < wr.heap.size) := hid (Nat.lt_of_lt_of_le HWB.out hsz)
                  obtain ⟨va, vc, hve⟩ : ∃ va vc, v = .slice va ps.length vc := ⟨_, _, HPW.out.own.row.1⟩
                  obtain ⟨pk, hpk⟩ : ∃ x, ps.length = x := ⟨_, rfl⟩
                  rw [hpk] at hve
                  have hps := (HPW.out.upTo HU.out).1
                  rw [hpk] at hps
                  subst hve
                  have HPK := hid hpk
                  have hpl : Hid (c.layers.length = pk) := hid (by rw [HPW.out.lay, List.length_map, hpk])
                  have HFAIL : Hid ((t < q → (lineQ ln.data.toList).bind (stepQ t c) = none) → textQ s.data.toList = .error (t + 1)) := hid (fun hb => text_fail HPC.out (by rw [HQM.out]; exact htq) (fun h => by rw [HQL.out t (by rw [← HQM.out]; exact h), HLN.out]) HLQ.out (fun e hw => by have h1 := HNL.out; have h2 := HWH.out; rw [HQM.out] at e hw; rw [decide_eq_true hw] at h2; rw [← h2, if_pos rfl] at h1; omega) (fun h => hb (by rw [← HQM.out]; exact h)))
                  clear hP0 hnc hpk hkm hk HO HP2 HBL2 HBQ HWR HWS HI hlb1 hcap
                  obtain ⟨b0, b1⟩ : _ ∧ _ := ⟨HPW.out.box0, HPW.out.box1⟩
                  have f0 := HPW.out.fr0
                  have f1 := HPW.out.fr1
                  have HYA : Hid (∀ c', ((t < q ∧ ∀ j, j < k → 0 ≤ smlF P j) → (lineQ ln.data.toList).bind (stepQ t c) = some c') → okb = true → t + 1 ≤ q ∧ linesQ (t + 1) c' (QL.drop (t + 1)) = linesQ 0 ⟨0, []⟩ QL ∧ c'.upTo (t + 1)) := hid (fun c' hs ho => by
                    have hk2 := HKB.out.1 ho
                    have hy := hs hk2
                    exact ⟨hk2.1, text_line (by rw [HQL.out t hk2.1, HLN.out]) HLQ.out hy, line_upTo HU.out hy⟩)
                  have HNA : Hid (okb = false → textQ s.data.toList = .error (t + 1)) := hid (fun ho => HFAIL.out (fun h => by rw [smlF_bad HPM.out HPP.out (fun ha => by have := HKB.out.2 ⟨h, ha⟩; rw [ho] at this; exact Bool.false_ne_true this)]; rfl))
                  have HNN : Hid ((allN P → (lineQ ln.data.toList).bind (stepQ t c) = none) → textQ s.data.toList = .error (t + 1)) := hid (fun hno => HFAIL.out (fun h => by
                    by_cases ha : ∀ j, j < k → 0 ≤ smlF P j
                    · exact hno (smlF_all HPM.out ha)
                    · rw [smlF_bad HPM.out HPP.out ha]; rfl))
                  have HY : ∃ Y : CQ → Prop, Y = fun c' => t + 1 ≤ q ∧ linesQ (t + 1) c' (QL.drop (t + 1)) = linesQ 0 ⟨0, []⟩ QL ∧ c'.upTo (t + 1) := ⟨_, rfl⟩
                  obtain ⟨Y, hY⟩ := HY
                  obtain ⟨NO, hNO⟩ : ∃ NO : Prop, NO = (textQ s.data.toList = .error (t + 1)) := ⟨_, rfl⟩
                  have HCASE : Hid (SwCase cb k pk t na wr c (.slice va pk vc) ps P0 okb Y NO) := hid (by
                    rw [hY, hNO]
                    by_cases hwi : P0.data.toList = wInputs
                    · have s1 : (P0.toList == [105, 110, 112, 117, 116, 115]) = true := by rw [word_eq]; exact decide_eq_true hwi
                      have s2 : (P0.toList == [108, 97, 121, 101, 114]) = false := by rw [word_eq, hwi]; decide
                      have s3 : (P0.toList == [97, 100, 100]) = false := by rw [word_eq, hwi]; decide
                      have s4 : (P0.toList == [109, 117, 108]) = false := by rw [word_eq, hwi]; decide
                      by_cases hmt : t = 0 ∧ k = 1
                      · obtain ⟨nb, hna, cn, _, _⟩ := HNC.out 0 (by omega)
                        refine .inr (.inl ⟨nb, smlF P 0, s1, by rw [hmt.1]; rfl, hmt.2, hna, cn, HYA.out _ (fun h => ?_), HNA.out⟩)
                        have hN := smlF_all HPM.out h.2
                        rw [step_inputs HPP.out hN (by rw [HP0.out]; exact hwi) (by rw [HPM.out, hmt.2]), if_pos hmt.1, ← smlF_num HPM.out hN 0 (by omega)]
                      · have hno := HNN.out (fun hN => step_inputs_none HPP.out hN (by rw [HP0.out]; exact hwi) (by rw [HPM.out]; omega))
                        by_cases ht0 : t = 0
                        · exact .inl ⟨hno, .inl ⟨s1, s2, s3, s4, .inl ⟨by rw [ht0]; rfl, beq_eq_false_iff_ne.2 (by omega)⟩⟩⟩
                        · exact .inl ⟨hno, .inl ⟨s1, s2, s3, s4, .inr (beq_eq_false_iff_ne.2 (by omega))⟩⟩
                    · have s1 : (P0.toList == [105, 110, 112, 117, 116, 115]) = false := by rw [word_eq]; exact decide_eq_false hwi
                      by_cases hwl : P0.data.toList = wLayer
                      · have s2 : (P0.toList == [108, 97, 121, 101, 114]) = true := by rw [word_eq]; exact decide_eq_true hwl
                        have s3 : (P0.toList == [97, 100, 100]) = false := by rw [word_eq, hwl]; decide
                        have s4 : (P0.toList == [109, 117, 108]) = false := by rw [word_eq, hwl]; decide
                        by_cases hmt : t ≠ 0 ∧ k = 1
                        · obtain ⟨nb, hna, cn, _, _⟩ := HNC.out 0 (by omega)
                          refine .inr (.inr (.inl ⟨nb, vc, va, smlF P 0, s1, s2, by omega, hmt.2, hna, cn, rfl, HPK.out, by omega, HYA.out _ (fun h => ?_), HNA.out⟩))
                          have hN := smlF_all HPM.out h.2
                          rw [step_layer HPP.out hN (by rw [HP0.out]; exact hwl) (by rw [HPM.out, hmt.2]), if_neg hmt.1, ← smlF_num HPM.out hN 0 (by omega)]
                        · have hno := HNN.out (fun hN => step_layer_none HPP.out hN (by rw [HP0.out]; exact hwl) (by rw [HPM.out]; omega))
                          by_cases ht0 : t = 0
                          · exact .inl ⟨hno, .inr (.inl ⟨s1, s2, s3, s4, .inl (by omega)⟩)⟩
                          · exact .inl ⟨hno, .inr (.inl ⟨s1, s2, s3, s4, .inr ⟨by omega, beq_eq_false_iff_ne.2 (by omega)⟩⟩)⟩
                      · have s2 : (P0.toList == [108, 97, 121, 101, 114]) = false := by rw [word_eq]; exact decide_eq_false hwl
                        by_cases hwg : ∃ mb : Bool, P0.data.toList = if mb then wMul else wAdd
                        · obtain ⟨mb, hwg⟩ := hwg
                          have s3 : (P0.toList == [97, 100, 100]) = !mb := by rw [word_eq, hwg]; cases mb <;> decide
                          have s4 : (P0.toList == [109, 117, 108]) = mb := by rw [word_eq, hwg]; cases mb <;> decide
                          have hcl : c.layers ≠ [] ↔ pk ≠ 0 := by rw [← hpl.out]; simp
                          by_cases hmt : pk ≠ 0 ∧ k = 2
                          · obtain ⟨hp0, hk2⟩ := hmt
                            obtain ⟨nb, hna, cn, hnb1, hnb2⟩ := HNC.out 0 (by omega)
                            obtain ⟨nb', hna', cm, _, _⟩ := HNC.out 1 (by omega)
                            rw [hna] at hna'
                            injection hna' with hna'
                            injection hna' with hna'
                            subst hna'
                            obtain ⟨qs, lg, hps2⟩ : ∃ qs p, ps = qs ++ [p] := ⟨_, _, (List.dropLast_concat_getLast (l := ps) (fun e => by have := HPK.out; rw [e] at this; simp at this; omega)).symm⟩
                            obtain ⟨l, gv⟩ := lg
                            obtain ⟨vb, vc', hvf, hvb1, hvb2⟩ := HPW.out.own.own.form (by rw [HPK.out]; omega)
                            rw [HPK.out] at hvf
                            injection hvf with hva _ hvc
                            obtain ⟨qn, hq⟩ : ∃ qn, qs.length = qn := ⟨_, rfl⟩
                            have hpq : pk = qn + 1 := by have := HPK.out; rw [hps2, List.length_append, hq] at this; simpa using this.symm
                            have hgo := HPW.out.own.gates (l, gv) (by rw [hps2]; simp)
                            obtain ⟨hgv, _, hgc, _⟩ := GRow.of_own hgo
                            obtain ⟨gl, hgl⟩ : ∃ n, l.gates.length = n := ⟨_, rfl⟩
                            have gl5 : gl ≤ 5000 := by rw [← hgl]; exact Nat.le_trans ((HPW.out.upTo HU.out).2 (l, gv) (by rw [hps2]; simp)) (by omega)
                            have hla := lcells_at ps qn (l, gv) (by rw [hps2, ← hq]; simp)
                            have ho := HPW.out.own.own
                            rw [HPK.out, hva] at ho
                            have cg : wr.cell? ⟨vb, qn * 2 + 1, none⟩ = some gv := by rw [Nat.mul_comm qn 2, ho.cellAt _ (by omega)]; exact hla.2
                            have fg : wr.frozen? ⟨vb, qn * 2 + 1, none⟩ = false := ho.frozenAt _
                            have hap : gv.ownBlock ≠ some vb := fun e => HPW.out.own.apart (l, gv) (by rw [hps2]; simp) vb e (by rw [hva]; rfl)
                            rw [hgl] at hgo hgv
                            obtain ⟨gva, hgva⟩ : ∃ a, adrV gv = a := ⟨_, rfl⟩
                            obtain ⟨gvc, hgvc⟩ : ∃ a, capV gv = a := ⟨_, rfl⟩
                            rw [hgva, hgvc] at hgv
                            subst hgv
                            refine .inr (.inr (.inr ⟨mb, nb, vb, vc, qn, gl, gvc, gva, qs, l, smlF P 0, smlF P 1, s1, s2, s3, s4, hk2, hna, cn, cm, by rw [hva, hpq], hpq, hps2, hq, by omega, hgl, gl5, cg, fg, hap, hgo, hvb1, hvb2, HYA.out _ (fun h => ?_), HNA.out⟩))
                            have hN := smlF_all HPM.out h.2
                            rw [step_gate HPP.out hN mb (by rw [HP0.out]; exact hwg) (by rw [HPM.out, hk2]), if_neg (hcl.2 hp0), ← smlF_num HPM.out hN 0 (by omega), ← smlF_num HPM.out hN 1 (by omega)]
                          · have hno := HNN.out (fun hN => step_gate_none HPP.out hN mb (by rw [HP0.out]; exact hwg) (fun h => hmt ⟨hcl.1 h.1, by have := h.2; rw [HPM.out] at this; omega⟩))
                            by_cases hk2 : k = 2
                            · exact .inl ⟨hno, .inr (.inr (.inl ⟨mb, s1, s2, s3, s4, .inl ⟨by rw [hk2]; rfl, Classical.byContradiction fun e => hmt ⟨e, hk2⟩⟩⟩))⟩
                            · exact .inl ⟨hno, .inr (.inr (.inl ⟨mb, s1, s2, s3, s4, .inr (beq_eq_false_iff_ne.2 (by omega))⟩))⟩
                        · have h3 : P0.data.toList ≠ wAdd := fun e => hwg ⟨false, e⟩
                          have h4 : P0.data.toList ≠ wMul := fun e => hwg ⟨true, e⟩
                          have s3 : (P0.toList == [97, 100, 100]) = false := by rw [word_eq]; exact decide_eq_false h3
                          have s4 : (P0.toList == [109, 117, 108]) = false := by rw [word_eq]; exact decide_eq_false h4
                          exact .inl ⟨HNN.out (fun hN => step_word_none HPP.out hN (by rw [HP0.out]; exact hwi) (by rw [HP0.out]; exact hwl) (by rw [HP0.out]; exact h3) (by rw [HP0.out]; exact h4)), .inr (.inr (.inr ⟨s1, s2, s3, s4⟩))⟩)
                  have HYN := hid (And.intro hY hNO)
                  clear HFAIL HKB HLQ hY hNO HYA HNA HNN HNC HPP HPM HP0
                  go_upto_block 4 with fail
                  refine sw_all HPW.out HBLW.out cP HCASE.out ?_
                  intro _ _ _ _ _ _ _ _ _ _ _ _ _ _ _ _ _ _ _ _ _ _ _ _ _ _ _ _ _ _ _ _ _ _ _ _ _ _ _ _ _ _ _ _ _ _ _ _ _ _ _ _ _ _ _ _ _ _ _ _ _ _ _ _ _ _ _ _ _ _ _ _ _ _ _ _ _ _ _ _ _ _ _ _ _ _ _ okf c' v' ps' w7 hP7 hB7 hy hn
                  have HYN2 := HYN.out
                  rw [HYN2.1] at hy
                  rw [HYN2.2] at hn
                  have HYES := hid hy
                  have HNO := hid hn
                  have HP7 := hid hP7
                  have HB7 := hid hB7
                  have HRC7 := hid (HRC0.out.kept HB7.out HBC.out)
                  clear b0 b1 f0 f1 cP HPW HBLW HRCW HCASE HYN HYN2 hy hn hP7 hB7
                  cases okf with
                  | true =>
                    obtain ⟨t1q, hy1, hy2⟩ := HYES.out rfl
                    have HLQ2 := hid hy1
                    have HU2 := hid hy2
                    clear hy1 hy2 HYES HNO
                    go_wp2_with fail
                    go_roundg (nl - (t + 1))
                    case measure => go_light; omega
                    case rel => exact ⟨t + 1, _, _, _, t1q, by omega, rfl, by go_num, HP7, HLQ2, HU2, HB7⟩
                  | false =>
                    have HFT := hid (HNO.out rfl)
                    have r0 := HRC7.out.c0
                    have r1 := HRC7.out.c1
                    have f0 := HRC7.out.f0
                    have f1 := HRC7.out.f1
                    clear HYES HNO
                    go_wp2_with fail
                    refine bodyPost_ret (results_circ3 rfl rfl (set_two r0 r1).1 (set_two r0 r1).2) rfl ?_
                    exact And.intro (by rw [HBE.out]; exact ((HBW0.out.trans (HB7.out.mono (Nat.le_of_lt HBC.out))).setCell (Nat.le_refl _) _).setCell (Nat.le_refl _) _) ⟨⟨0, []⟩, t + 1, 3, .slice none 0 0, [], .inr (.inl ⟨by rw [HSZ.out]; omega, HFT.out, rfl, rfl⟩), HZ.out, by omega, by simp <;> omega, OwnC.nil _ _, rfl⟩
          · have hnl := HNL.out
            cases wh with
            | false => exfalso; simp at hnl; omega
            | true =>
              have hq : nl = q := by simpa using hnl.symm
              subst hq
              have e : t = nl := by omega
              subst e
              have HTX : Hid (textQ s.data.toList = .ok c) := hid (text_end HPC.out (by rw [HQM.out]; exact HLQ.out) (by rw [HQM.out]; exact of_decide_eq_true HWH.out))
              clear hnl HNL HWH
              have HRC := hid (HRC0.out.kept HBL.out HBC.out)
              obtain ⟨hve, _, _, hrow⟩ := HP.out.own.row
              obtain ⟨va, hva⟩ : ∃ x, adrV v = x := ⟨_, rfl⟩
              obtain ⟨vc, hvc⟩ : ∃ x, capV v = x := ⟨_, rfl⟩
              have hlay := HP.out.lay
              rw [hva, hvc] at hve
              rw [hva, ← hlay] at hrow
              have hlen2 : c.layers.length = ps.length := by rw [hlay, List.length_map]
              obtain ⟨pk, hpk⟩ : ∃ x, ps.length = x := ⟨_, rfl⟩
              rw [hpk] at hve hlen2
              subst hve
              have HROW := hid hrow
              have HLAY := hid hlay
              have HLEN := hid hlen2
              have b0 := HP.out.box0
              have b1 := HP.out.box1
              clear hrow hlay hlen2 hva hvc hpk
              go_wp2_with fail
              refine (rcirc_any c c.log va pk vc _ _ _ rfl HLEN.out HROW.out).mono ?_
              rintro e w3 ⟨x, rfl, hx, hb3⟩
              have HX := hid hx
              have HP3 := hid (HP.out.kept hb3)
              have HRC3 := hid (HRC.out.kept hb3 HRC.out.lt)
              have HB3 := hid (HBW0.out.trans ((HBL.out.trans (hb3.mono (Nat.le_trans (Nat.le_of_lt HP.out.lt) HP.out.le))).mono (Nat.le_of_lt HBC.out)))
              clear b0 b1 hx hb3 HROW
              have b0 := HP3.out.box0
              have b1 := HP3.out.box1
              have r0 := HRC3.out.c0
              have r1 := HRC3.out.c1
              have f0 := HRC3.out.f0
              have f1 := HRC3.out.f1
              have HUP : Hid (c.upTo 4097) := hid ⟨Nat.le_trans HU.out.1 (by omega), fun l hl => Nat.le_trans (HU.out.2 l hl) (by omega)⟩
              by_cases h0 : x = 0
              · subst h0
                have hBb : B < cb + 1 := by have := HBC.out; omega
                have HOC4 := hid (fun u u' => (HP3.out.own.setBelow (a := ⟨B, 0, none⟩) hBb u).setBelow (a := ⟨B, 1, none⟩) hBb u')
                go_wp2_with fail
                refine bodyPost_ret (results_circ3 rfl rfl (set_two r0 r1).1 (set_two r0 r1).2) rfl ?_
                exact And.intro (by rw [HBE.out]; exact (HB3.out.setCell (Nat.le_refl _) _).setCell (Nat.le_refl _) _) ⟨c, 0, 0, _, ps, .inr (.inr ⟨by rw [HSZ.out]; omega, c, HTX.out, HX.out, rfl, fun _ => rfl, fun h => absurd rfl h⟩), HUP.out, by omega, rfl, (HOC4.out _ _).lower (by rw [HBE.out]; omega), HLAY.out⟩
              · have e1 : (x != 0) = true := by simp; exact h0
                go_wp2_with fail
                refine bodyPost_ret (results_circ3 rfl rfl (set_two r0 r1).1 (set_two r0 r1).2) rfl ?_
                exact And.intro (by rw [HBE.out]; exact (HB3.out.setCell (Nat.le_refl _) _).setCell (Nat.le_refl _) _) ⟨⟨0, []⟩, 0, x, .slice none 0 0, [], .inr (.inr ⟨by rw [HSZ.out]; omega, c, HTX.out, HX.out, rfl, fun h => absurd h h0, fun _ => rfl⟩), HZ.out, by omega, rfl, OwnC.nil _ _, rfl⟩

end Go.Proofs.YtnnnlalhhhhaeaaDoor
