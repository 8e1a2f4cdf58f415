/-
  A contract of a turn's wires; it makes new rows and writes nothing that was there.
-/
import Derived.Test.YtaiaillaihlhpafDoorGk3
import Derived.Test.YtaiaillaihlhpafDoorGkrT
import Derived.Test.YtaiaillaihlhpafDoorWirV
import Derived.Deep.DeepCutAuto
namespace Go.Proofs.YtaiaillaihlhpafDoor
open Go.RowKit
set_option linter.unusedVariables false
attribute [local go_sem ↓] Go.wp_at_zero Go.wp_at_succ

theorem or_fin : ∀ k : Fin 5, ∀ a b : Fin 16, b.val < 2 ^ k.val → bits .or .i64 ((a.val * 2 ^ k.val : Nat) : Int) (b.val : Int) = ((a.val * 2 ^ k.val + b.val : Nat) : Int) := by decide +kernel
theorem or_at {k a b : Nat} (hk : k ≤ 4) (ha : a < 16) (hb : b < 2 ^ k) : bits .or .i64 ((a * 2 ^ k : Nat) : Int) (b : Int) = ((a * 2 ^ k + b : Nat) : Int) :=
  or_fin ⟨k, by omega⟩ ⟨a, ha⟩ ⟨b, by have : 2 ^ k ≤ 2 ^ 4 := Nat.pow_le_pow_right (by omega) hk; omega⟩ hb
theorem or_wrap {k a b : Nat} (hk : k ≤ 4) (ha : a < 2 ^ k) (hb : b < 2 ^ k) : bits .or .i64 (IntKind.i64.wrap ((a : Int) * 2 ^ k)) (b : Int) = ((a * 2 ^ k + b : Nat) : Int) ∧ a * 2 ^ k + b < 2 ^ (2 * k) := by
  have h16 : 2 ^ k ≤ 16 := Nat.pow_le_pow_right (j := 4) (by omega) hk
  have h1 : a * 2 ^ k ≤ 16 * 16 := Nat.mul_le_mul (by omega) h16
  have e1 : (a : Int) * 2 ^ k = ((a * 2 ^ k : Nat) : Int) := by simp
  rw [e1, IntWalk.i64_in _ (by omega), or_at hk (by omega) hb]
  refine ⟨rfl, ?_⟩
  rw [Nat.two_mul, two_pow_pair]
  have h2 : (a + 1) * 2 ^ k ≤ 2 ^ k * 2 ^ k := Nat.mul_le_mul_right _ (by omega)
  rw [Nat.succ_mul] at h2
  omega
/-- The table of how t gates of one sort are wired. -/
def wtF (s : Bool) (gs : List GQ) (l k : Nat) (z : Nat → Int) (t p : Nat) : Int := ofK (wtabK s (gM gs) (gA gs) (gB gs) l k (pK z) t p)
theorem wtF_zero (s : Bool) (gs : List GQ) (l k : Nat) (z : Nat → Int) (p : Nat) : wtF s gs l k z 0 p = 0 := rfl
theorem wtF_skip {s : Bool} {gs : List GQ} {l k t : Nat} {z : Nat → Int} {q : GQ} (hq : gs[t]? = some q) (h : q.mul ≠ s) (p : Nat) : wtF s gs l k z (t + 1) p = wtF s gs l k z t p := by
  unfold wtF wtabK
  rw [sK, gM_at hq, if_neg (fun e => h e.1)]
  congr 1; grind
theorem wtF_put {s : Bool} {gs : List GQ} {l k t at' : Nat} {z : Nat → Int} {q : GQ} {y : Int} (hq : gs[t]? = some q) (h : q.mul = s) (hat : q.a.toNat * 2 ^ k + q.b.toNat = at') (hy : wtF s gs l k z t at' = y) (p : Nat) : (if p = at' then addQ y (wgt z l t) else wtF s gs l k z t p) = wtF s gs l k z (t + 1) p := by
  by_cases e : p = at'
  · rw [if_pos e, ← hy, addQ_ofK, e]
    unfold wtF wgt wtabK
    rw [sK, gM_at hq, gA_at hq, gB_at hq, if_pos ⟨h, hat⟩, kk_ofK, kk_ofK]
    rfl
  · rw [if_neg e]
    unfold wtF wtabK
    rw [sK, gM_at hq, gA_at hq, gB_at hq, if_neg (fun e2 => e (e2.2.symm.trans hat))]
    congr 1; grind

set_option maxHeartbeats 8000000 in
set_option maxRecDepth 100000 in
theorem wires_any (i : Int) (az : Option Addr) (nz cz bd od k cd : Nat) (tau lg : Int) (ga : Option Addr) (m gc : Nat) (mul : Bool) (gs : List GQ) (z : Nat → Int) (T : Nat) (w : World) (hk : k ≤ 4) (hz4 : nz ≤ 4) (hT : T = 2 ^ (2 * k)) (hm : gs.length = m) (hmz : m = 2 ^ nz) (hgr : GRow w ga gs) (hok : ∀ q ∈ gs, gateOk ((2 ^ k : Nat) : Int) q) (hz : PRow w az nz z) (vz : Nums z) :
    Calls Tryd.prog 52 #[turnV i az nz cz (some ⟨bd, od, none⟩) (2 * k) cd tau, .agg #[.int .i64 lg, .slice ga m gc], .bool mul] w fun e w' => ∃ B, e = .returned (.slice (some ⟨B, 0, none⟩) T T) ∧ w.heap.size ≤ B ∧ Row w' B 0 T (wtF mul gs nz k z m) ∧ Below w.heap.size w w' := by
  have hT1 : 1 ≤ T := by rw [hT]; exact Nat.one_le_two_pow
  have hT2 : T ≤ 256 := by rw [hT]; exact Nat.pow_le_pow_right (j := 8) (by omega) (by omega)
  have HT := hid hT
  have HM := hid hm
  have HMZ := hid hmz
  have HG := hid hgr
  have HOK := hid hok
  have m16 : m ≤ 16 := by rw [hmz]; exact Nat.pow_le_pow_right (j := 4) (by omega) (by omega)
  have HEQ := hid (fun W (h : Below w.heap.size w W) => eqp_any az nz cz m z W (by omega) hmz (hz.kept h) vz)
  have sh := shl_pow (k := 2 * k) (by omega)
  rw [← hT] at sh
  clear hT hm hmz hgr hok hz vz
  obtain ⟨k2, hk2⟩ : ∃ x, 2 * k = x := ⟨_, rfl⟩
  rw [hk2] at sh ⊢
  have d1 : (k2 : Int).tdiv 2 = (k : Int) := by rw [Int.tdiv_eq_ediv_of_nonneg (by omega)]; omega
  have d2 : (k2 : Int) / 2 = (k : Int) := by omega
  have k28 : k2 ≤ 8 := by omega
  clear hk2
  have hmk := run_make_row' (P := Tryd.prog) 25 26 (.int .u64 0) 8 Tryd.underlying25 Tryd.infoU rfl .i64 .i64 T (by omega) (by omega)
  go_enter Tryd.func52, Tryd.ntmps52
  go_wp2_with fail
  clear hmk sh d1 d2
  obtain ⟨X, hX⟩ : ∃ X, w.heap.size = X := ⟨_, rfl⟩
  have hb1 := (Below.refl w.heap.size w).alloc (Nat.le_refl _) (.cells #[.int .i64 i, .slice az nz cz, .slice (some ⟨bd, od, none⟩) k2 cd, .int .u64 tau] 73)
  have hb2 := hb1.alloc (by simp) (.cells #[.int .i64 lg, .slice ga m gc] 39)
  have hbx := Box2.new (w.alloc (.cells #[.int .i64 i, .slice az nz cz, .slice (some ⟨bd, od, none⟩) k2 cd, .int .u64 tau] 73)) (.int .i64 lg) (.slice ga m gc) 39
  have hsz : ((w.alloc (.cells #[.int .i64 i, .slice az nz cz, .slice (some ⟨bd, od, none⟩) k2 cd, .int .u64 tau] 73)).alloc (.cells #[.int .i64 lg, .slice ga m gc] 39)).heap.size = X + 1 + 1 := by simp [hX]
  have hmd := Made.start ((w.alloc (.cells #[.int .i64 i, .slice az nz cz, .slice (some ⟨bd, od, none⟩) k2 cd, .int .u64 tau] 73)).alloc (.cells #[.int .i64 lg, .slice ga m gc] 39)) T 26
  rw [hX]
  rw [World.size_alloc, hX] at hbx
  generalize (w.alloc (.cells #[.int .i64 i, .slice az nz cz, .slice (some ⟨bd, od, none⟩) k2 cd, .int .u64 tau] 73)).alloc (.cells #[.int .i64 lg, .slice ga m gc] 39) = W2 at hb2 hbx hsz hmd ⊢
  have HB2 := hid hb2
  have HSZ := hid (And.intro hX hsz)
  have hbx3 := hbx.kept hmd.below
  have hb3 := hb2.trans (hmd.below.mono hb2.size)
  generalize hW3 : W2.alloc (.cells (madeCells #[.int .u64 0] T) 26) = W3 at hmd hbx3 hb3 ⊢
  clear hb1 hb2 hbx hX hsz hW3
  refine (HEQ.out W3 hb3).mono ?_
  rintro e w4 ⟨rfl, hmd4⟩
  obtain ⟨z0, z1, zl⟩ := hbx3.kept hmd4.below
  have HM4 : Hid (Made W2 w4 T (wtF mul gs nz k z 0)) := hid ((hmd.keep hT1 hmd4.below).congr fun j _ => (wtF_zero _ _ _ _ _ _).symm)
  have hlt : X + 1 + 1 < W3.heap.size := by rw [← HSZ.out.2]; exact hmd.row.lt hT1
  obtain ⟨Eb, hEb⟩ : ∃ E, W3.heap.size = E := ⟨_, rfl⟩
  have hrE := hmd4.row
  rw [hEb] at hrE hlt ⊢
  have HRE := hid hrE
  clear hmd4 hrE hEb hmd hb3 hbx3 HEQ
  go_wp2_with fail
  clear z0 z1 zl
  go_loopg [32] m (fun q i wr => ∃ t : Nat, t ≤ m ∧ q = m - t ∧ i = .int .i64 (t : Int) ∧ Hid (Made W2 wr T (wtF mul gs nz k z t)) ∧ Hid (Row wr Eb 0 m (wgt z nz)))
  case atStart => exact ⟨0, by omega, rfl, rfl, HM4, HRE⟩
  case round =>
    clear HM4 HRE
    obtain ⟨t, ht, rfl, rfl, HMT, HRE⟩ := hrel
    by_cases htl : t < m
    · obtain ⟨q, hq⟩ : ∃ q, gs[t]? = some q := ⟨gs[t]'(by rw [HM.out]; exact htl), by simp⟩
      have hbw : Below w.heap.size w wr := HB2.out.trans (HMT.out.below.mono HB2.out.size)
      have hgr := HG.out
      obtain ⟨gb, go, rfl, hcl⟩ := hgr (by intro e; have := HM.out; rw [e] at this; simp at this; omega)
      obtain ⟨y0, y1, y2⟩ := hcl t q hq
      have hgb : gb < w.heap.size := World.block_lt_of_cell? w _ y0
      replace y0 := (hbw.cell hgb).trans y0
      replace y1 := (hbw.cell hgb).trans y1
      replace y2 := (hbw.cell hgb).trans y2
      rw [Nat.mul_comm 3 t] at y0 y1 y2
      obtain ⟨⟨a0, a1⟩, b0, b1⟩ := HOK.out q (List.mem_of_getElem? hq)
      obtain ⟨qa, hqa⟩ : ∃ x : Nat, q.a = (x : Int) := ⟨q.a.toNat, by omega⟩
      obtain ⟨qb, hqb⟩ : ∃ x : Nat, q.b = (x : Int) := ⟨q.b.toNat, by omega⟩
      obtain ⟨qm, hqm⟩ : ∃ x, q.mul = x := ⟨_, rfl⟩
      rw [hqm] at y0
      rw [hqa] at y1 a1
      rw [hqb] at y2 b1
      have HQ := hid (And.intro hq (And.intro hqm (And.intro hqa hqb)))
      clear hcl hq hqm hqa hqb a0 b0 hbw hgr hgb
      have t0 : (0 : Int) ≤ (t : Int) := by omega
      have t1 : (t : Int) < (m : Int) := by omega
      have HM1 := hid (HMT.out.keep hT1 ((Below.refl wr.heap.size wr).alloc (Nat.le_refl _) (.cells #[.bool qm, .int .i64 (qa : Int), .int .i64 (qb : Int)] 62)))
      have HE1 := hid (HRE.out.kept ((Below.refl wr.heap.size wr).alloc (Nat.le_refl _) (.cells #[.bool qm, .int .i64 (qa : Int), .int .i64 (qb : Int)] 62)) (HRE.out.lt (by omega)))
      by_cases hqm : qm = mul
      · subst hqm
        have e1 : (qm == qm) = true := by simp
        obtain ⟨hor, hat2⟩ := or_wrap (k := k) (a := qa) (b := qb) hk (by omega) (by omega)
        rw [← HT.out] at hat2
        obtain ⟨at', hat'⟩ : ∃ x, qa * 2 ^ k + qb = x := ⟨_, rfl⟩
        rw [hat'] at hor hat2
        have HOR := hid hor
        have HAT := hid hat'
        clear hor hat' a1 b1
        have k0 : (0 : Int) ≤ (k : Int) := by omega
        go_wp2_with fail
        go_quiet (fail)
        rw [HOR.out]
        have hdn : Below (wr.alloc (.cells #[.bool qm, .int .i64 (qa : Int), .int .i64 (qb : Int)] 62)).heap.size (wr.alloc (.cells #[.bool qm, .int .i64 (qa : Int), .int .i64 (qb : Int)] 62)) ((wr.alloc (.cells #[.bool qm, .int .i64 (qa : Int), .int .i64 (qb : Int)] 62)).drewN nq) := ⟨rfl, rfl, rfl, Nat.le_refl _, fun _ _ => rfl⟩
        have HM2 := hid (HM1.out.keep hT1 hdn)
        have HE2 := hid (HE1.out.kept hdn (HE1.out.lt (by omega)))
        clear HM1 HE1 hdn HOR y0 y1 y2 HMT HRE
        generalize (wr.alloc (.cells #[.bool qm, .int .i64 (qa : Int), .int .i64 (qb : Int)] 62)).drewN nq = w5 at HM2 HE2 ⊢
        have c1 := HM2.out.cell at' hat2
        have f1 := HM2.out.frozen at' hat2
        have c2 := HE2.out t htl
        rw [HSZ.out.2] at c1 f1
        rw [Nat.zero_add] at c2
        obtain ⟨y, hy⟩ : ∃ y, wtF qm gs nz k z t at' = y := ⟨_, rfl⟩
        obtain ⟨v, hv⟩ : ∃ y, wgt z nz t = y := ⟨_, rfl⟩
        have ry : 0 ≤ y ∧ y ≤ 18446744073709551615 := by rw [← hy]; exact ofK_u64 _
        have rv : 0 ≤ v ∧ v ≤ 18446744073709551615 := by rw [← hv]; exact ofK_u64 _
        obtain ⟨ry0, ry1⟩ := ry
        obtain ⟨rv0, rv1⟩ := rv
        rw [hy] at c1
        rw [hv] at c2
        have HY := hid (And.intro hy hv)
        clear hy hv
        have s0 : (0 : Int) ≤ (at' : Int) := by omega
        have s1 : (at' : Int) < (T : Int) := by omega
        go_wp2_with fail
        refine wp_region_still_tail 12 Tryd.mixed (by kernel_rfl) ?_
        simp only [List.take_succ_cons, List.take_zero, List.drop_succ_cons, List.drop_zero]
        iterate 10 still_step
        still_call (add_any y v _ (by omega) (by omega) (by omega) (by omega))
        still_step
        refine wpStill_nil ?_
        go_wp2_with fail
        go_roundg (m - (t + 1))
        case measure => go_light; omega
        case rel =>
          have hq := HQ.out
          refine ⟨t + 1, by omega, rfl, by go_num, hid ?_, hid ?_⟩
          · have h := HM2.out.drew.store at' (addQ y v) hat2
            rw [HSZ.out.2] at h
            exact h.congr fun j _ => by rw [← HY.out.2]; exact wtF_put hq.1 hq.2.1 (by rw [hq.2.2.1, hq.2.2.2]; simpa using HAT.out) HY.out.1 j
          · exact HE2.out.drew.other ((Wrote.refl (X + 1 + 1) at' 1 w5.drew).store (Nat.le_refl _) (by omega) _) (by omega)
      · have e1 : (qm == mul) = false := beq_eq_false_iff_ne.2 hqm
        go_wp2_with fail
        go_roundg (m - (t + 1))
        case measure => go_light; omega
        case rel =>
          have hq := HQ.out
          exact ⟨t + 1, by omega, rfl, by go_num, hid (HM1.out.congr fun j _ => (wtF_skip hq.1 (by rw [hq.2.1]; exact hqm) j).symm), HE1⟩
    · have e : t = m := by omega
      subst e
      go_wp2_with fail
      go_ret
      refine ⟨X + 1 + 1, rfl, by have := HSZ.out.1; omega, ?_, HB2.out.trans (HMT.out.below.mono HB2.out.size)⟩
      have h := HMT.out.row
      rw [HSZ.out.2] at h
      exact h

end Go.Proofs.YtaiaillaihlhpafDoor
