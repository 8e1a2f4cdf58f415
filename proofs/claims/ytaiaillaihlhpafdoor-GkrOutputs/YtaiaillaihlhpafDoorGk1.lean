/-
  Contracts of package gkr's logs, countDraws and hasEnds, of right circuits; they make new rows and write nothing that was there.
-/
import Derived.Test.YtaiaillaihlhpafDoorGkrM
import Derived.Test.YtaiaillaihlhpafDoorWirC
import Derived.Deep.AppendLies
namespace Go.Proofs.YtaiaillaihlhpafDoor
open Go.RowKit
set_option linter.unusedVariables false
attribute [local go_sem ↓] Go.wp_at_zero Go.wp_at_succ

/-- make([]int, 1, k + 1). -/
theorem run_make_one (k : Nat) (hk : k ≤ 1000) (w : World) : (Instr.makeSlice 77 (.int .i64 1) (.int .i64 ((k : Int) + 1))).run Tryd.prog w = .ok (.slice (some ⟨w.heap.size, 0, none⟩) 1 (k + 1)) (w.alloc (.cells (madeCells #[.int .i64 0] (k + 1)) 3)) := by
  obtain ⟨i, hi, hz⟩ := Option.map_eq_some_iff.1 Tryd.infoI
  simp only [Prod.mk.injEq] at hz
  obtain ⟨h1, h2, h3⟩ := hz
  have h := run_make (P := Tryd.prog) w 77 3 i (.int .i64 0) Tryd.underlying77 hi h1 .i64 .i64 1 ((k : Int) + 1) (by omega) (by omega) (by rw [h3]; omega) (by omega)
  rw [h2, Nat.mul_one, show ((k : Int) + 1).toNat = k + 1 from by omega] at h
  exact h
/-- What append leaves, of ints. -/
theorem isnoc {w wr w6 : World} {E g2 c2 t : Nat} {v : Value} {z : Int} {f : Nat → Int} {o : Obj} (hb : Below E w wr) (hs : E ≤ wr.heap.size) (hown : OwnI wr E v t f) (hz : f t = z)
    (h6 : w6.ownsRow E 3 1 (.slice (some ⟨g2, 0, none⟩) (t + 1) c2) (t + 1) (icells t f ++ [.int .i64 z])) (hg : (wr.alloc o).grownBy w6 v.ownBlock) : OwnI w6 E (.slice (some ⟨g2, 0, none⟩) (t + 1) c2) (t + 1) f ∧ Below E w w6 := by
  refine ⟨by rw [OwnI, ← icells_snoc t f z hz]; exact h6, (hb.alloc hs o).grown hg (by simp; omega) fun k e => ?_⟩
  exact (World.ownsRow.lt hown k e).1

set_option maxHeartbeats 2000000 in
set_option maxRecDepth 100000 in
theorem logs_any (c : CQ) (g : Int) (b off n cap : Nat) (A : Nat → Option Addr) (C : Nat → Nat) (w : World) (hg : c.log = g) (hn : c.layers.length = n) (n4 : n ≤ 4) (hr : CRow w (some ⟨b, off, none⟩) c.layers A C) :
    Calls Tryd.prog 36 #[.agg #[.int .i64 g, .slice (some ⟨b, off, none⟩) n cap]] w fun e w' => ∃ L cl, e = .returned (.slice (some ⟨L, 0, none⟩) (n + 1) cl) ∧ n + 1 ≤ cl ∧ w.heap.size ≤ L ∧ IRow w' L 0 (n + 1) (belowQ c) ∧ Below w.heap.size w w' := by
  obtain ⟨i0, hi, hz0, hz1, hz2⟩ := info_parts Tryd.infoI
  have HI := hid (And.intro hi (And.intro hz0 (And.intro hz1 hz2)))
  clear hi hz0 hz1 hz2
  have HR := hid hr
  have HN := hid hn
  have hmk := run_make_one n (by omega)
  have hm0 : (madeCells #[Value.int .i64 0] (n + 1))[0]? = some (.int .i64 0) := by simp [madeCells]
  obtain ⟨E, hE⟩ : ∃ E, w.heap.size = E := ⟨_, rfl⟩
  have HEE := hid hE
  have HO0 : Hid (OwnI ((w.alloc (.cells #[.int .i64 g, .slice (some ⟨b, off, none⟩) n cap] 24)).alloc (.cells ((madeCells #[.int .i64 0] (n + 1)).setIfInBounds 0 (.int .i64 g)) 3)) E (.slice (some ⟨w.heap.size + 1, 0, none⟩) 1 (n + 1)) 1 (belowQ c)) := hid (by
    have h := OwnI.start (w.alloc (.cells #[.int .i64 g, .slice (some ⟨b, off, none⟩) n cap] 24)) E n g (belowQ c) (by simp; omega) (by unfold maxLen; omega) hg
    rwa [World.size_alloc] at h)
  have HB0 : Hid (Below E w ((w.alloc (.cells #[.int .i64 g, .slice (some ⟨b, off, none⟩) n cap] 24)).alloc (.cells ((madeCells #[.int .i64 0] (n + 1)).setIfInBounds 0 (.int .i64 g)) 3))) := hid (by
    rw [← hE]
    exact ((Below.refl _ w).alloc (Nat.le_refl _) _).alloc (by simp) _)
  clear hr hg hn hE
  go_enter Tryd.func36, Tryd.ntmps36
  go_wp2_with fail
  clear hmk hm0
  generalize (w.alloc (.cells #[.int .i64 g, .slice (some ⟨b, off, none⟩) n cap] 24)).alloc (.cells ((madeCells #[.int .i64 0] (n + 1)).setIfInBounds 0 (.int .i64 g)) 3) = W1 at HO0 HB0 ⊢
  go_loopg [3, 18] n (fun q v i wr => ∃ (t : Nat) (u : Value), t ≤ n ∧ q = n - t ∧ v = u ∧ i = .int .i64 (t : Int) ∧ Hid (OwnI wr E u (t + 1) (belowQ c)) ∧ Hid (Below E w wr))
  case atStart => exact ⟨0, _, by omega, rfl, rfl, rfl, HO0, HB0⟩
  case round =>
    clear HO0 HB0
    obtain ⟨t, v, ht, rfl, hv, rfl, HO, HB⟩ := hrel
    obtain rfl := hv.symm
    have hs : E ≤ wr.heap.size := by have h1 := HB.out.size; have h2 := HEE.out; omega
    by_cases htl : t < n
    · obtain ⟨l, hl⟩ : ∃ l, c.layers[t]? = some l := ⟨c.layers[t]'(by rw [HN.out]; exact htl), by simp⟩
      have hbw : Below w.heap.size w wr := by rw [HEE.out]; exact HB.out
      obtain ⟨b', off', eb, hc⟩ := (HR.out.kept hbw) (by intro e; have := HN.out; rw [e] at this; simp at this; omega)
      cases eb
      obtain ⟨y0, y1, _, _⟩ := hc t l hl
      rw [Nat.mul_comm 2 t] at y0 y1
      obtain ⟨lg, hlg⟩ : ∃ x, l.log = x := ⟨_, rfl⟩
      obtain ⟨m, hm⟩ : ∃ x, l.gates.length = x := ⟨_, rfl⟩
      obtain ⟨ga, hga⟩ : ∃ x, A t = x := ⟨_, rfl⟩
      obtain ⟨gc, hgc⟩ : ∃ x, C t = x := ⟨_, rfl⟩
      rw [hlg] at y0
      rw [hm, hga, hgc] at y1
      have HZ : Hid (belowQ c (t + 1) = lg) := hid (by rw [belowQ, hl]; exact hlg)
      clear hc hl hlg hm hga hgc hbw
      have t0 : (0 : Int) ≤ (t : Int) := by omega
      have t1 : (t : Int) < (n : Int) := by omega
      go_wp2_with (at_builtin; refine wpList_append_lies _ rfl _ _ 77 rfl E 3 i0 (.int .i64 0) 1 8 Tryd.underlying77 HI.out.1 HI.out.2.1 HI.out.2.2.1 HI.out.2.2.2 rfl (by decide) v (t + 1) _ rfl (World.ownsRow.alloc (World.ownsRow.alloc HO.out _) _) ⟨wr.heap.size + 1, 0, none⟩ 1 1 [.int .i64 lg] rfl rfl ?qc2 ?qc3 ?qc4 ?qc5 ?qc6 ?qc7 (wr.heap.size + 2) ?qc8 ?_)
      case qc3 => rfl
      case qc5 => unfold maxLen; omega
      case qc6 => omega
      case qc7 => omega
      intro g2 c2 w6 hown2 hgrow2 hat2 hlt3
      have HN6 := hid (isnoc (HB.out.alloc hs (.cells #[.int .i64 lg, .slice ga m gc] 39)) (by simp; omega) (HO.out.kept ((Below.refl wr.heap.size wr).alloc (Nat.le_refl _) _)) HZ.out hown2 hgrow2)
      clear hown2 hgrow2 hat2 hlt3
      go_wp2_with fail
      go_roundg (n - (t + 1))
      case measure => go_light; omega
      case rel => exact ⟨t + 1, _, by omega, rfl, rfl, by go_num, hid HN6.out.1, hid HN6.out.2⟩
    · have e : t = n := by omega
      subst e
      obtain ⟨L, cl, rfl, hcl, hL, hrow⟩ := HO.out.is
      go_wp2_with fail
      go_ret
      exact ⟨L, cl, rfl, hcl, by rw [HEE.out]; exact hL, hrow, by rw [HEE.out]; exact HB.out⟩

set_option maxHeartbeats 2000000 in
set_option maxRecDepth 100000 in
theorem cdraws_any (c : CQ) (g : Int) (b off n cap : Nat) (A : Nat → Option Addr) (C : Nat → Nat) (w : World) (hg : c.log = g) (hn : c.layers.length = n) (hr : CRow w (some ⟨b, off, none⟩) c.layers A C) (hc : c.right) :
    Calls Tryd.prog 32 #[.agg #[.int .i64 g, .slice (some ⟨b, off, none⟩) n cap]] w fun e w' => e = .returned (.int .i64 (needQ c : Int)) ∧ Below w.heap.size w w' := by
  have n4 : n ≤ 4 := by have := hc.few; omega
  have HS0 := hid (StW.start w g (.slice (some ⟨b, off, none⟩) n cap) 24)
  have HLG := hid (fun W (h : Below w.heap.size w W) => logs_any c g b off n cap A C W hg hn n4 (hr.kept h))
  have HC := hid hc
  have HN := hid hn
  clear hr hg hn hc
  go_enter Tryd.func32, Tryd.ntmps32
  go_wp2_with fail
  obtain ⟨B, hB⟩ : ∃ B, w.heap.size = B := ⟨_, rfl⟩
  have HS1 : Hid (StW w (w.alloc (.cells #[.int .i64 g, .slice (some ⟨b, off, none⟩) n cap] 24)) B g (.slice (some ⟨b, off, none⟩) n cap)) := hid (by rw [← hB]; exact HS0.out)
  rw [hB]
  clear hB HS0
  generalize w.alloc (.cells #[.int .i64 g, .slice (some ⟨b, off, none⟩) n cap] 24) = W1 at HS1 ⊢
  refine (HLG.out _ HS1.out.bel).mono ?_
  rintro e w1 ⟨L, cl, rfl, hcl, hL, hrow, hb⟩
  have HS2 := hid (HS1.out.next hb)
  clear hb HS1 HLG hL
  obtain ⟨z0, z1, zl⟩ := HS2.out.box
  obtain ⟨lz, hlz, lz4⟩ := belowQ_rng HC.out n
  have y0 := hrow n (by omega)
  rw [Nat.zero_add, hlz] at y0
  have HROW := hid hrow
  have HLZ : Hid ((partsQ c).lg 0 = lz) := hid (by
    show (belowQ c (c.layers.length - 0)).toNat = lz
    rw [HN.out, Nat.sub_zero, hlz, Int.toNat_natCast])
  have n0 : (0 : Int) ≤ (n : Int) := by omega
  have n5 : (n : Int) < (n : Int) + 1 := by omega
  have n6 : (n : Int) ≤ (cl : Int) := by omega
  clear hrow hlz
  go_wp2_with fail
  clear y0 n5 n6 z0 z1 zl
  go_loopg [5, 21] n (fun q s i wr => ∃ (t p : Nat), t ≤ n ∧ q = n - t ∧ s = .int .i64 (p : Int) ∧ i = .int .i64 (t : Int) ∧ p ≤ 4 + 9 * t ∧ Hid (p = lz + needP c t) ∧ wr = w1)
  case atStart => exact ⟨0, lz, by omega, rfl, rfl, rfl, by omega, hid rfl, rfl⟩
  case round =>
    obtain ⟨t, p, ht, rfl, rfl, rfl, hp, HP, hw⟩ := hrel
    obtain rfl := hw.symm
    by_cases htl : t < n
    · obtain ⟨bk, hbk, bk4⟩ := belowQ_rng HC.out t
      have y0 := HROW.out t (by omega)
      rw [Nat.zero_add, hbk] at y0
      have HNX : Hid (p + 2 * bk + 1 = lz + needP c (t + 1)) := hid (by rw [HP.out, needP, hbk, Int.toNat_natCast]; omega)
      have t0 : (0 : Int) ≤ (t : Int) := by omega
      have t1 : (t : Int) < (n : Int) := by omega
      clear hbk
      go_wp2_with fail
      go_roundg (n - (t + 1))
      case measure => go_light; omega
      case rel => exact ⟨t + 1, p + 2 * bk + 1, by omega, rfl, by go_num, by go_num, by omega, HNX, rfl⟩
    · have e : t = n := by omega
      have HFIN : Hid ((p : Int) = (needQ c : Int)) := hid (by rw [need_is, HLZ.out, HN.out, ← e, ← HP.out])
      have t1 : ¬ ((t : Int) < (n : Int)) := by omega
      clear e
      go_wp2_with fail
      go_ret
      exact ⟨by rw [HFIN.out]; rfl, HS2.out.bel⟩

/-- Whether a circuit's ends have as many numbers. -/
def endsQ (c : CQ) (ni no : Nat) : Prop := ni = 2 ^ (partsQ c).lg c.layers.length ∧ no = 2 ^ (partsQ c).lg 0
theorem lg_top {c : CQ} {n k : Nat} (hn : c.layers.length = n) (h : belowQ c n = (k : Int)) : (partsQ c).lg 0 = k := by
  show (belowQ c (c.layers.length - 0)).toNat = k
  rw [hn, Nat.sub_zero, h, Int.toNat_natCast]
theorem lg_of {c : CQ} {n t i bk : Nat} (hn : c.layers.length = n) (hi : i + t + 1 = n) (hb : belowQ c i = (bk : Int)) : (partsQ c).lg (t + 1) = bk := by
  show (belowQ c (c.layers.length - (t + 1))).toNat = bk
  rw [hn, show n - (t + 1) = i from by omega, hb, Int.toNat_natCast]
theorem lg_bot {c : CQ} {n k : Nat} (hn : c.layers.length = n) (h : belowQ c 0 = (k : Int)) : (partsQ c).lg n = k := by
  show (belowQ c (c.layers.length - n)).toNat = k
  rw [hn, Nat.sub_self, h, Int.toNat_natCast]

set_option maxHeartbeats 2000000 in
set_option maxRecDepth 100000 in
theorem hasEnds_any (c : CQ) (g : Int) (b off n cap : Nat) (A : Nat → Option Addr) (C : Nat → Nat) (ai ao : Option Addr) (ni ci no co : Nat) (w : World) (hg : c.log = g) (hn : c.layers.length = n) (hr : CRow w (some ⟨b, off, none⟩) c.layers A C) (hc : c.right) :
    Calls Tryd.prog 38 #[.agg #[.int .i64 g, .slice (some ⟨b, off, none⟩) n cap], .slice ai ni ci, .slice ao no co] w fun e w' => ∃ r : Bool, e = .returned (.bool r) ∧ (r = true ↔ endsQ c ni no) ∧ Below w.heap.size w w' := by
  have n4 : n ≤ 4 := by have := hc.few; omega
  have HS0 := hid (StW.start w g (.slice (some ⟨b, off, none⟩) n cap) 24)
  have HLG := hid (fun W (h : Below w.heap.size w W) => logs_any c g b off n cap A C W hg hn n4 (hr.kept h))
  obtain ⟨lz, hlz, lz4⟩ := belowQ_rng hc n
  obtain ⟨k0, hk0, k04⟩ := belowQ_rng hc 0
  have HE : Hid (endsQ c ni no ↔ ni = 2 ^ k0 ∧ no = 2 ^ lz) := hid (by unfold endsQ; rw [hn, lg_top hn hlz, lg_bot hn hk0])
  have HB := hid (And.intro hlz hk0)
  clear hr hg hn hc hlz hk0
  go_enter Tryd.func38, Tryd.ntmps38
  go_wp2_with fail
  obtain ⟨B, hB⟩ : ∃ B, w.heap.size = B := ⟨_, rfl⟩
  have HS1 : Hid (StW w (w.alloc (.cells #[.int .i64 g, .slice (some ⟨b, off, none⟩) n cap] 24)) B g (.slice (some ⟨b, off, none⟩) n cap)) := hid (by rw [← hB]; exact HS0.out)
  rw [hB]
  clear hB HS0
  generalize w.alloc (.cells #[.int .i64 g, .slice (some ⟨b, off, none⟩) n cap] 24) = W1 at HS1 ⊢
  refine (HLG.out _ HS1.out.bel).mono ?_
  rintro e w1 ⟨L, cl, rfl, hcl, hL, hrow, hb⟩
  have HS2 := hid (HS1.out.next hb)
  clear hb HS1 HLG hL
  obtain ⟨z0, z1, zl⟩ := HS2.out.box
  have y0 := hrow 0 (by omega)
  have y1 := hrow n (by omega)
  rw [Nat.zero_add, HB.out.2] at y0
  rw [Nat.zero_add, HB.out.1] at y1
  clear hrow hcl HB
  have sh0 := shl_pow (k := k0) (by omega)
  have sh1 := shl_pow (k := lz) (by omega)
  generalize 2 ^ k0 = M0 at sh0 HE
  generalize 2 ^ lz = M1 at sh1 HE
  have n0 : (0 : Int) ≤ (n : Int) := by omega
  have n5 : (n : Int) < (n : Int) + 1 := by omega
  have n6 : (0 : Int) < (n : Int) + 1 := by omega
  by_cases h1 : ni = M0
  · have e1 : ((ni : Int) == (M0 : Int)) = true := by rw [h1]; simp
    by_cases h2 : no = M1
    · have e2 : ((no : Int) == (M1 : Int)) = true := by rw [h2]; simp
      have HR : Hid (endsQ c ni no) := hid (HE.out.2 ⟨h1, h2⟩)
      clear h1 h2
      go_wp2_with fail
      go_ret
      exact ⟨true, rfl, ⟨fun _ => HR.out, fun _ => rfl⟩, HS2.out.bel⟩
    · have e2 : ((no : Int) == (M1 : Int)) = false := beq_eq_false_iff_ne.2 (by omega)
      have HR : Hid (¬ endsQ c ni no) := hid (fun h => h2 (HE.out.1 h).2)
      clear h1 h2
      go_wp2_with fail
      go_ret
      exact ⟨false, rfl, ⟨fun h => absurd h Bool.false_ne_true, fun h => absurd h HR.out⟩, HS2.out.bel⟩
  · have e1 : ((ni : Int) == (M0 : Int)) = false := beq_eq_false_iff_ne.2 (by omega)
    have HR : Hid (¬ endsQ c ni no) := hid (fun h => h1 (HE.out.1 h).1)
    clear h1
    go_wp2_with fail
    go_ret
    exact ⟨false, rfl, ⟨fun h => absurd h Bool.false_ne_true, fun h => absurd h HR.out⟩, HS2.out.bel⟩

end Go.Proofs.YtaiaillaihlhpafDoor
