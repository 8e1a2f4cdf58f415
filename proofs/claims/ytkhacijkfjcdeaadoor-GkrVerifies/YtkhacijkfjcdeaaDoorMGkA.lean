/-
  Several texts in one: Gk1, Gk2, Gk9, RangeK, Gk6, Tun, RoundK; each opens with what it holds.
-/
import Derived.Test.YtkhacijkfjcdeaaDoorGkrM
import Derived.Test.YtkhacijkfjcdeaaDoorWirC
import Derived.Deep.AppendLies
import Derived.Test.YtkhacijkfjcdeaaDoorFieldA
import Derived.Test.YtkhacijkfjcdeaaDoorLists
import Derived.Deep.QuietTactic
import Derived.StillTailTactics
import Derived.Deep.OwnRows
import Derived.Deep.LoopGhost
import Derived.Deep.Light
import Derived.Deep.DrawnRows
import Derived.Deep.RegionHeld3
import Derived.Test.YtkhacijkfjcdeaaDoorPrf
import Derived.Test.YtkhacijkfjcdeaaDoorCircC
import Derived.RangeFuncBox
import Derived.RangeFuncLeaves
import Derived.Shelf.Abstract
import Derived.WalkKit
import Derived.OwnWalkIn
import Derived.TacticsInMore
import Derived.LoopNIn
import Derived.LoopIn
import Derived.OrdersIn
import Derived.RangeFuncCalls
/-
  Contracts of package gkr's logs, countDraws and hasEnds, of right circuits; they make new rows and write nothing that was there.
-/
namespace Go.Proofs.YtkhacijkfjcdeaaDoor
open Go.RowKit
set_option linter.unusedVariables false
attribute [local go_sem ↓] Go.wp_at_zero Go.wp_at_succ

/-- make([]int, 1, k + 1). -/
theorem run_make_one (k : Nat) (hk : k ≤ 1000) (w : World) : (Instr.makeSlice 75 (.int .i64 1) (.int .i64 ((k : Int) + 1))).run Tryd.prog w = .ok (.slice (some ⟨w.heap.size, 0, none⟩) 1 (k + 1)) (w.alloc (.cells (madeCells #[.int .i64 0] (k + 1)) 3)) := by
  obtain ⟨i, hi, hz⟩ := Option.map_eq_some_iff.1 Tryd.infoI
  simp only [Prod.mk.injEq] at hz
  obtain ⟨h1, h2, h3⟩ := hz
  have h := run_make (P := Tryd.prog) w 75 3 i (.int .i64 0) Tryd.underlying75 hi h1 .i64 .i64 1 ((k : Int) + 1) (by omega) (by omega) (by rw [h3]; omega) (by omega)
  rw [h2, Nat.mul_one, show ((k : Int) + 1).toNat = k + 1 from by omega] at h
  exact h
/-- What append leaves, of ints. -/
theorem isnoc {w wr w6 : World} {E g2 c2 t : Nat} {v : Value} {z : Int} {f : Nat → Int} {o : Obj} (hb : Below E w wr) (hs : E ≤ wr.heap.size) (hown : OwnI wr E v t f) (hz : f t = z)
    (h6 : w6.ownsRow E 3 1 (.slice (some ⟨g2, 0, none⟩) (t + 1) c2) (t + 1) (icells t f ++ [.int .i64 z])) (hg : (wr.alloc o).grownBy w6 v.ownBlock) : OwnI w6 E (.slice (some ⟨g2, 0, none⟩) (t + 1) c2) (t + 1) f ∧ Below E w w6 := by
  refine ⟨by rw [OwnI, ← icells_snoc t f z hz]; exact h6, (hb.alloc hs o).grown hg (by simp; omega) fun k e => ?_⟩
  exact (World.ownsRow.lt hown k e).1

set_option maxHeartbeats 2000000 in
set_option maxRecDepth 100000 in
theorem logs_any (c : CQ) (g : Int) (b off n cap : Nat) (A : Nat → Option Addr) (C : Nat → Nat) (w : World) (hg : c.log = g) (hn : c.layers.length = n) (n4 : n ≤ 4) (hr : CRow w (some ⟨b, off, none⟩) c.layers A C) :
    Calls Tryd.prog 34 #[.agg #[.int .i64 g, .slice (some ⟨b, off, none⟩) n cap]] w fun e w' => ∃ L cl, e = .returned (.slice (some ⟨L, 0, none⟩) (n + 1) cl) ∧ n + 1 ≤ cl ∧ w.heap.size ≤ L ∧ IRow w' L 0 (n + 1) (belowQ c) ∧ Below w.heap.size w w' := by
  obtain ⟨i0, hi, hz0, hz1, hz2⟩ := info_parts Tryd.infoI
  have HI := hid (And.intro hi (And.intro hz0 (And.intro hz1 hz2)))
  clear hi hz0 hz1 hz2
  have HR := hid hr
  have HN := hid hn
  have hmk := run_make_one n (by omega)
  have hm0 : (madeCells #[Value.int .i64 0] (n + 1))[0]? = some (.int .i64 0) := by simp [madeCells]
  obtain ⟨E, hE⟩ : ∃ E, w.heap.size = E := ⟨_, rfl⟩
  have HEE := hid hE
  have HO0 : Hid (OwnI ((w.alloc (.cells #[.int .i64 g, .slice (some ⟨b, off, none⟩) n cap] 24)).alloc (.cells ((madeCells #[.int .i64 0] (n + 1)).setIfInBounds 0 (.int .i64 g)) 3)) E (.slice (some ⟨w.heap.size + 1, 0, none⟩) 1 (n + 1)) 1 (belowQ c)) := hid (by
    have h := OwnI.start (w.alloc (.cells #[.int .i64 g, .slice (some ⟨b, off, none⟩) n cap] 24)) E n g (belowQ c) (by simp; omega) (by unfold maxLen; omega) hg
    rwa [World.size_alloc] at h)
  have HB0 : Hid (Below E w ((w.alloc (.cells #[.int .i64 g, .slice (some ⟨b, off, none⟩) n cap] 24)).alloc (.cells ((madeCells #[.int .i64 0] (n + 1)).setIfInBounds 0 (.int .i64 g)) 3))) := hid (by
    rw [← hE]
    exact ((Below.refl _ w).alloc (Nat.le_refl _) _).alloc (by simp) _)
  clear hr hg hn hE
  go_enter Tryd.func34, Tryd.ntmps34
  go_wp2_with fail
  clear hmk hm0
  generalize (w.alloc (.cells #[.int .i64 g, .slice (some ⟨b, off, none⟩) n cap] 24)).alloc (.cells ((madeCells #[.int .i64 0] (n + 1)).setIfInBounds 0 (.int .i64 g)) 3) = W1 at HO0 HB0 ⊢
  go_loopg [3, 18] n (fun q v i wr => ∃ (t : Nat) (u : Value), t ≤ n ∧ q = n - t ∧ v = u ∧ i = .int .i64 (t : Int) ∧ Hid (OwnI wr E u (t + 1) (belowQ c)) ∧ Hid (Below E w wr))
  case atStart => exact ⟨0, _, by omega, rfl, rfl, rfl, HO0, HB0⟩
  case round =>
    clear HO0 HB0
    obtain ⟨t, v, ht, rfl, hv, rfl, HO, HB⟩ := hrel
    obtain rfl := hv.symm
    have hs : E ≤ wr.heap.size := by have h1 := HB.out.size; have h2 := HEE.out; omega
    by_cases htl : t < n
    · obtain ⟨l, hl⟩ : ∃ l, c.layers[t]? = some l := ⟨c.layers[t]'(by rw [HN.out]; exact htl), by simp⟩
      have hbw : Below w.heap.size w wr := by rw [HEE.out]; exact HB.out
      obtain ⟨b', off', eb, hc⟩ := (HR.out.kept hbw) (by intro e; have := HN.out; rw [e] at this; simp at this; omega)
      cases eb
      obtain ⟨y0, y1, _, _⟩ := hc t l hl
      rw [Nat.mul_comm 2 t] at y0 y1
      obtain ⟨lg, hlg⟩ : ∃ x, l.log = x := ⟨_, rfl⟩
      obtain ⟨m, hm⟩ : ∃ x, l.gates.length = x := ⟨_, rfl⟩
      obtain ⟨ga, hga⟩ : ∃ x, A t = x := ⟨_, rfl⟩
      obtain ⟨gc, hgc⟩ : ∃ x, C t = x := ⟨_, rfl⟩
      rw [hlg] at y0
      rw [hm, hga, hgc] at y1
      have HZ : Hid (belowQ c (t + 1) = lg) := hid (by rw [belowQ, hl]; exact hlg)
      clear hc hl hlg hm hga hgc hbw
      have t0 : (0 : Int) ≤ (t : Int) := by omega
      have t1 : (t : Int) < (n : Int) := by omega
      go_wp2_with (at_builtin; refine wpList_append_lies _ rfl _ _ 75 rfl E 3 i0 (.int .i64 0) 1 8 Tryd.underlying75 HI.out.1 HI.out.2.1 HI.out.2.2.1 HI.out.2.2.2 rfl (by decide) v (t + 1) _ rfl (World.ownsRow.alloc (World.ownsRow.alloc HO.out _) _) ⟨wr.heap.size + 1, 0, none⟩ 1 1 [.int .i64 lg] rfl rfl ?qc2 ?qc3 ?qc4 ?qc5 ?qc6 ?qc7 (wr.heap.size + 2) ?qc8 ?_)
      case qc3 => rfl
      case qc5 => unfold maxLen; omega
      case qc6 => omega
      case qc7 => omega
      intro g2 c2 w6 hown2 hgrow2 hat2 hlt3
      have HN6 := hid (isnoc (HB.out.alloc hs (.cells #[.int .i64 lg, .slice ga m gc] 35)) (by simp; omega) (HO.out.kept ((Below.refl wr.heap.size wr).alloc (Nat.le_refl _) _)) HZ.out hown2 hgrow2)
      clear hown2 hgrow2 hat2 hlt3
      go_wp2_with fail
      go_roundg (n - (t + 1))
      case measure => go_light; omega
      case rel => exact ⟨t + 1, _, by omega, rfl, rfl, by go_num, hid HN6.out.1, hid HN6.out.2⟩
    · have e : t = n := by omega
      subst e
      obtain ⟨L, cl, rfl, hcl, hL, hrow⟩ := HO.out.is
      go_wp2_with fail
      go_ret
      exact ⟨L, cl, rfl, hcl, by rw [HEE.out]; exact hL, hrow, by rw [HEE.out]; exact HB.out⟩

set_option maxHeartbeats 2000000 in
set_option maxRecDepth 100000 in
theorem cdraws_any (c : CQ) (g : Int) (b off n cap : Nat) (A : Nat → Option Addr) (C : Nat → Nat) (w : World) (hg : c.log = g) (hn : c.layers.length = n) (hr : CRow w (some ⟨b, off, none⟩) c.layers A C) (hc : c.right) :
    Calls Tryd.prog 37 #[.agg #[.int .i64 g, .slice (some ⟨b, off, none⟩) n cap]] w fun e w' => e = .returned (.int .i64 (needQ c : Int)) ∧ Below w.heap.size w w' := by
  have n4 : n ≤ 4 := by have := hc.few; omega
  have HS0 := hid (StW.start w g (.slice (some ⟨b, off, none⟩) n cap) 24)
  have HLG := hid (fun W (h : Below w.heap.size w W) => logs_any c g b off n cap A C W hg hn n4 (hr.kept h))
  have HC := hid hc
  have HN := hid hn
  clear hr hg hn hc
  go_enter Tryd.func37, Tryd.ntmps37
  go_wp2_with fail
  obtain ⟨B, hB⟩ : ∃ B, w.heap.size = B := ⟨_, rfl⟩
  have HS1 : Hid (StW w (w.alloc (.cells #[.int .i64 g, .slice (some ⟨b, off, none⟩) n cap] 24)) B g (.slice (some ⟨b, off, none⟩) n cap)) := hid (by rw [← hB]; exact HS0.out)
  rw [hB]
  clear hB HS0
  generalize w.alloc (.cells #[.int .i64 g, .slice (some ⟨b, off, none⟩) n cap] 24) = W1 at HS1 ⊢
  refine (HLG.out _ HS1.out.bel).mono ?_
  rintro e w1 ⟨L, cl, rfl, hcl, hL, hrow, hb⟩
  have HS2 := hid (HS1.out.next hb)
  clear hb HS1 HLG hL
  obtain ⟨z0, z1, zl⟩ := HS2.out.box
  obtain ⟨lz, hlz, lz4⟩ := belowQ_rng HC.out n
  have y0 := hrow n (by omega)
  rw [Nat.zero_add, hlz] at y0
  have HROW := hid hrow
  have HLZ : Hid ((partsQ c).lg 0 = lz) := hid (by
    show (belowQ c (c.layers.length - 0)).toNat = lz
    rw [HN.out, Nat.sub_zero, hlz, Int.toNat_natCast])
  have n0 : (0 : Int) ≤ (n : Int) := by omega
  have n5 : (n : Int) < (n : Int) + 1 := by omega
  have n6 : (n : Int) ≤ (cl : Int) := by omega
  clear hrow hlz
  go_wp2_with fail
  clear y0 n5 n6 z0 z1 zl
  go_loopg [5, 21] n (fun q s i wr => ∃ (t p : Nat), t ≤ n ∧ q = n - t ∧ s = .int .i64 (p : Int) ∧ i = .int .i64 (t : Int) ∧ p ≤ 4 + 9 * t ∧ Hid (p = lz + needP c t) ∧ wr = w1)
  case atStart => exact ⟨0, lz, by omega, rfl, rfl, rfl, by omega, hid rfl, rfl⟩
  case round =>
    obtain ⟨t, p, ht, rfl, rfl, rfl, hp, HP, hw⟩ := hrel
    obtain rfl := hw.symm
    by_cases htl : t < n
    · obtain ⟨bk, hbk, bk4⟩ := belowQ_rng HC.out t
      have y0 := HROW.out t (by omega)
      rw [Nat.zero_add, hbk] at y0
      have HNX : Hid (p + 2 * bk + 1 = lz + needP c (t + 1)) := hid (by rw [HP.out, needP, hbk, Int.toNat_natCast]; omega)
      have t0 : (0 : Int) ≤ (t : Int) := by omega
      have t1 : (t : Int) < (n : Int) := by omega
      clear hbk
      go_wp2_with fail
      go_roundg (n - (t + 1))
      case measure => go_light; omega
      case rel => exact ⟨t + 1, p + 2 * bk + 1, by omega, rfl, by go_num, by go_num, by omega, HNX, rfl⟩
    · have e : t = n := by omega
      have HFIN : Hid ((p : Int) = (needQ c : Int)) := hid (by rw [need_is, HLZ.out, HN.out, ← e, ← HP.out])
      have t1 : ¬ ((t : Int) < (n : Int)) := by omega
      clear e
      go_wp2_with fail
      go_ret
      exact ⟨by rw [HFIN.out]; rfl, HS2.out.bel⟩

/-- Whether a circuit's ends have as many numbers. -/
def endsQ (c : CQ) (ni no : Nat) : Prop := ni = 2 ^ (partsQ c).lg c.layers.length ∧ no = 2 ^ (partsQ c).lg 0
theorem lg_top {c : CQ} {n k : Nat} (hn : c.layers.length = n) (h : belowQ c n = (k : Int)) : (partsQ c).lg 0 = k := by
  show (belowQ c (c.layers.length - 0)).toNat = k
  rw [hn, Nat.sub_zero, h, Int.toNat_natCast]
theorem lg_of {c : CQ} {n t i bk : Nat} (hn : c.layers.length = n) (hi : i + t + 1 = n) (hb : belowQ c i = (bk : Int)) : (partsQ c).lg (t + 1) = bk := by
  show (belowQ c (c.layers.length - (t + 1))).toNat = bk
  rw [hn, show n - (t + 1) = i from by omega, hb, Int.toNat_natCast]
theorem lg_bot {c : CQ} {n k : Nat} (hn : c.layers.length = n) (h : belowQ c 0 = (k : Int)) : (partsQ c).lg n = k := by
  show (belowQ c (c.layers.length - n)).toNat = k
  rw [hn, Nat.sub_self, h, Int.toNat_natCast]

set_option maxHeartbeats 2000000 in
set_option maxRecDepth 100000 in
theorem hasEnds_any (c : CQ) (g : Int) (b off n cap : Nat) (A : Nat → Option Addr) (C : Nat → Nat) (ai ao : Option Addr) (ni ci no co : Nat) (w : World) (hg : c.log = g) (hn : c.layers.length = n) (hr : CRow w (some ⟨b, off, none⟩) c.layers A C) (hc : c.right) :
    Calls Tryd.prog 36 #[.agg #[.int .i64 g, .slice (some ⟨b, off, none⟩) n cap], .slice ai ni ci, .slice ao no co] w fun e w' => ∃ r : Bool, e = .returned (.bool r) ∧ (r = true ↔ endsQ c ni no) ∧ Below w.heap.size w w' := by
  have n4 : n ≤ 4 := by have := hc.few; omega
  have HS0 := hid (StW.start w g (.slice (some ⟨b, off, none⟩) n cap) 24)
  have HLG := hid (fun W (h : Below w.heap.size w W) => logs_any c g b off n cap A C W hg hn n4 (hr.kept h))
  obtain ⟨lz, hlz, lz4⟩ := belowQ_rng hc n
  obtain ⟨k0, hk0, k04⟩ := belowQ_rng hc 0
  have HE : Hid (endsQ c ni no ↔ ni = 2 ^ k0 ∧ no = 2 ^ lz) := hid (by unfold endsQ; rw [hn, lg_top hn hlz, lg_bot hn hk0])
  have HB := hid (And.intro hlz hk0)
  clear hr hg hn hc hlz hk0
  go_enter Tryd.func36, Tryd.ntmps36
  go_wp2_with fail
  obtain ⟨B, hB⟩ : ∃ B, w.heap.size = B := ⟨_, rfl⟩
  have HS1 : Hid (StW w (w.alloc (.cells #[.int .i64 g, .slice (some ⟨b, off, none⟩) n cap] 24)) B g (.slice (some ⟨b, off, none⟩) n cap)) := hid (by rw [← hB]; exact HS0.out)
  rw [hB]
  clear hB HS0
  generalize w.alloc (.cells #[.int .i64 g, .slice (some ⟨b, off, none⟩) n cap] 24) = W1 at HS1 ⊢
  refine (HLG.out _ HS1.out.bel).mono ?_
  rintro e w1 ⟨L, cl, rfl, hcl, hL, hrow, hb⟩
  have HS2 := hid (HS1.out.next hb)
  clear hb HS1 HLG hL
  obtain ⟨z0, z1, zl⟩ := HS2.out.box
  have y0 := hrow 0 (by omega)
  have y1 := hrow n (by omega)
  rw [Nat.zero_add, HB.out.2] at y0
  rw [Nat.zero_add, HB.out.1] at y1
  clear hrow hcl HB
  have sh0 := shl_pow (k := k0) (by omega)
  have sh1 := shl_pow (k := lz) (by omega)
  generalize 2 ^ k0 = M0 at sh0 HE
  generalize 2 ^ lz = M1 at sh1 HE
  have n0 : (0 : Int) ≤ (n : Int) := by omega
  have n5 : (n : Int) < (n : Int) + 1 := by omega
  have n6 : (0 : Int) < (n : Int) + 1 := by omega
  by_cases h1 : ni = M0
  · have e1 : ((ni : Int) == (M0 : Int)) = true := by rw [h1]; simp
    by_cases h2 : no = M1
    · have e2 : ((no : Int) == (M1 : Int)) = true := by rw [h2]; simp
      have HR : Hid (endsQ c ni no) := hid (HE.out.2 ⟨h1, h2⟩)
      clear h1 h2
      go_wp2_with fail
      go_ret
      exact ⟨true, rfl, ⟨fun _ => HR.out, fun _ => rfl⟩, HS2.out.bel⟩
    · have e2 : ((no : Int) == (M1 : Int)) = false := beq_eq_false_iff_ne.2 (by omega)
      have HR : Hid (¬ endsQ c ni no) := hid (fun h => h2 (HE.out.1 h).2)
      clear h1 h2
      go_wp2_with fail
      go_ret
      exact ⟨false, rfl, ⟨fun h => absurd h Bool.false_ne_true, fun h => absurd h HR.out⟩, HS2.out.bel⟩
  · have e1 : ((ni : Int) == (M0 : Int)) = false := beq_eq_false_iff_ne.2 (by omega)
    have HR : Hid (¬ endsQ c ni no) := hid (fun h => h1 (HE.out.1 h).1)
    clear h1
    go_wp2_with fail
    go_ret
    exact ⟨false, rfl, ⟨fun h => absurd h Bool.false_ne_true, fun h => absurd h HR.out⟩, HS2.out.bel⟩

end Go.Proofs.YtkhacijkfjcdeaaDoor

/-
  Contracts of package gkr's hasForm, and of a turn's ends, between and next; they make new rows and write nothing that was there.
-/
namespace Go.Proofs.YtkhacijkfjcdeaaDoor
open Go.RowKit
set_option linter.unusedVariables false
attribute [local go_sem ↓] Go.wp_at_zero Go.wp_at_succ

theorem Tryd.mixed : Tryd.prog.follows .mixedOrders = true := by kernel_rfl
theorem Tryd.infoU : (Tryd.prog.info? 45).map (fun i => (i.zero, i.size, i.bytes)) = some (some (.int .u64 0), 1, 8) := by kernel_rfl

/-- A part's form. -/
def formQ (rn ln k : Nat) (L : Nat → Nat) : Prop := rn = 2 * k ∧ ln = k + 1 ∧ ∀ i, i < rn → L i = 3
set_option maxHeartbeats 2000000 in
set_option maxRecDepth 100000 in
theorem hasForm_any (ra la : Option Addr) (rn rc ln lc k : Nat) (A : Nat → Option Addr) (L C : Nat → Nat) (F : Nat → Nat → Int) (w : World) (hk : k ≤ 4) (hl : LRow w ra rn A L C F) :
    Calls Tryd.prog 35 #[.agg #[.slice ra rn rc, .slice la ln lc], .int .i64 (k : Int)] w fun e w' => ∃ r : Bool, e = .returned (.bool r) ∧ (r = true ↔ formQ rn ln k L) ∧ Below w.heap.size w w' := by
  have hal := (Below.refl w.heap.size w).alloc (Nat.le_refl _) (.cells #[.slice ra rn rc, .slice la ln lc] 74)
  have HB := hid hal
  have HL := hid (hl.kept hal)
  have HBX := hid (Box2.new w (.slice ra rn rc) (.slice la ln lc) 74)
  clear hal hl
  by_cases hr1 : rn = 2 * k
  · have e2 : ((rn : Int) != 2 * (k : Int)) = false := neq_of (by omega)
    by_cases hl1 : ln = k + 1
    · have e3 : ((ln : Int) != (k : Int) + 1) = false := neq_of (by omega)
      have HRL := hid (And.intro hr1 hl1)
      have hr8 : rn ≤ 8 := by omega
      clear hr1 hl1
      go_enter Tryd.func35, Tryd.ntmps35
      go_wp2_with fail
      clear e2 e3
      generalize w.alloc (.cells #[.slice ra rn rc, .slice la ln lc] 74) = W1 at HB HL HBX ⊢
      go_loopg [24] rn (fun q i wx => ∃ u : Nat, u ≤ rn ∧ q = rn - u ∧ i = .int .i64 (u : Int) ∧ wx = W1 ∧ Hid (∀ i, i < u → L i = 3))
      case atStart => exact ⟨0, by omega, rfl, rfl, rfl, hid (fun i hi => absurd hi (by omega))⟩
      case round =>
        obtain ⟨u, hu, rfl, rfl, hwx, HU⟩ := hrel
        subst hwx
        by_cases hul : u < rn
        · obtain ⟨rb, ro, rfl, hrl⟩ := HL.out (by omega)
          have x0 := (hrl u hul).1
          obtain ⟨q1, hq1⟩ : ∃ x, A u = x := ⟨_, rfl⟩
          obtain ⟨q2, hq2⟩ : ∃ x, L u = x := ⟨_, rfl⟩
          obtain ⟨q3, hq3⟩ : ∃ x, C u = x := ⟨_, rfl⟩
          rw [hq1, hq2, hq3] at x0
          have HQ2 := hid hq2
          clear hrl hq1 hq2 hq3
          have u0 : (0 : Int) ≤ (u : Int) := by omega
          have u1 : (u : Int) < (rn : Int) := by omega
          by_cases h3 : q2 = 3
          · have e4 : ((q2 : Int) != 3) = false := by rw [h3]; rfl
            have HUN : Hid (∀ i, i < u + 1 → L i = 3) := hid (fun i hi => by
              by_cases e : i = u
              · rw [e, HQ2.out]; exact h3
              · exact HU.out i (by omega))
            go_wp2_with fail
            go_roundg (rn - (u + 1))
            case measure => go_light; omega
            case rel => exact ⟨u + 1, by omega, rfl, by go_num, rfl, HUN⟩
          · have e4 : ((q2 : Int) != 3) = true := by simp; omega
            go_wp2_with fail
            go_ret
            exact ⟨false, rfl, ⟨fun h => absurd h Bool.false_ne_true, fun h => absurd (HQ2.out.symm.trans (h.2.2 u hul)) h3⟩, HB.out⟩
        · have u2 : ¬ ((u : Int) < (rn : Int)) := by omega
          go_wp2_with fail
          go_ret
          exact .inr ⟨rfl, ⟨HRL.out.1, HRL.out.2, fun i hi => HU.out i (by omega)⟩, HB.out⟩
    · have e3 : ((ln : Int) != (k : Int) + 1) = true := by simp; omega
      have HL1 := hid hl1
      clear hr1 hl1
      go_enter Tryd.func35, Tryd.ntmps35
      go_wp2_with fail
      go_ret
      exact ⟨false, rfl, ⟨fun h => absurd h Bool.false_ne_true, fun h => absurd h.2.1 HL1.out⟩, HB.out⟩
  · have e2 : ((rn : Int) != 2 * (k : Int)) = true := by simp; omega
    have HR1 := hid hr1
    clear hr1
    go_enter Tryd.func35, Tryd.ntmps35
    go_wp2_with fail
    go_ret
    exact ⟨false, rfl, ⟨fun h => absurd h Bool.false_ne_true, fun h => absurd h.1 HR1.out⟩, HB.out⟩

set_option maxHeartbeats 2000000 in
set_option maxRecDepth 100000 in
theorem ends_any (i : Int) (az : Option Addr) (nz cz bd od k cd : Nat) (tau : Int) (w : World) (hk : k ≤ 100) (hcd : 2 * k < cd) (hcm : cd ≤ maxLen) :
    Calls Tryd.prog 74 #[turnV i az nz cz (some ⟨bd, od, none⟩) (2 * k) cd tau] w fun e w' => e = .returned (.tuple #[.slice (some ⟨bd, od, none⟩) k cd, .slice (some ⟨bd, od + k, none⟩) k (cd - k)]) ∧ Below w.heap.size w w' := by
  have HB := hid ((Below.refl w.heap.size w).alloc (Nat.le_refl _) (.cells #[.int .i64 i, .slice az nz cz, .slice (some ⟨bd, od, none⟩) (2 * k) cd, .int .u64 tau] 81))
  have hbx := Box4.new w (.int .i64 i) (.slice az nz cz) (.slice (some ⟨bd, od, none⟩) (2 * k) cd) (.int .u64 tau) 81
  obtain ⟨z0, z1, z2, z3, zl⟩ := hbx
  obtain ⟨k2, hk2⟩ : ∃ x, 2 * k = x := ⟨_, rfl⟩
  rw [hk2] at z0 z1 z2 z3 zl HB ⊢
  have d1 : (k2 : Int).tdiv 2 = (k : Int) := by rw [Int.tdiv_eq_ediv_of_nonneg (by omega)]; omega
  have d2 : (k2 : Int) / 2 = (k : Int) := by omega
  have a0 : (0 : Int) ≤ (k : Int) := by omega
  have a1 : (k : Int) ≤ (k2 : Int) := by omega
  have a2 : (k : Int) ≤ (cd : Int) := by omega
  have a3 : (k2 : Int) ≤ (cd : Int) := by omega
  have h4 : k2 - k = k := by omega
  have h5 : ¬ cd = k := by omega
  have HK := hid hk2
  clear hk2 hcd
  go_enter Tryd.func74, Tryd.ntmps74
  go_wp2_with fail
  go_quiet (fail)
  go_wp2_with fail
  go_ret2
  refine ⟨by first | rfl | (rw [h4]), ?_⟩
  exact ⟨HB.out.os, HB.out.tape, HB.out.output, HB.out.size, HB.out.block⟩

/-- What between leaves, place by place. -/
theorem bet_step (x y : Nat → Int) (s a d : Int) (k j : Nat) (ha : x k = a) (hd : y k = d) : (if j = k then addQ a (mulQ s (subQ d a)) else if j < k then linQ x y s j else 0) = if j < k + 1 then linQ x y s j else 0 := by
  by_cases e : j = k
  · subst e
    rw [if_pos rfl, if_pos (by omega), linQ, ha, hd]
  · rw [if_neg e]
    by_cases h2 : j < k
    · rw [if_pos h2, if_pos (by omega)]
    · rw [if_neg h2, if_neg (by omega)]

set_option maxHeartbeats 4000000 in
set_option maxRecDepth 100000 in
theorem between_any (i : Int) (az : Option Addr) (nz cz bd od k cd : Nat) (tau s : Int) (d : Nat → Int) (w : World) (hk : k ≤ 100) (hcd : 2 * k < cd) (hcm : cd ≤ maxLen) (hr : Row w bd od (2 * k) d) (hv : Nums d) (s0 : 0 ≤ s) (s1 : s ≤ 18446744073709551615) :
    Calls Tryd.prog 77 #[turnV i az nz cz (some ⟨bd, od, none⟩) (2 * k) cd tau, .int .u64 s] w fun e w' => ∃ B, e = .returned (.slice (some ⟨B, 0, none⟩) k k) ∧ w.heap.size ≤ B ∧ Row w' B 0 k (linQ d (fun j => d (k + j)) s) ∧ Below w.heap.size w w' := by
  have HEN := hid (fun W => ends_any i az nz cz bd od k cd tau W hk hcd hcm)
  have HS0 := hid (StT.start w (.int .i64 i) (.slice az nz cz) (.slice (some ⟨bd, od, none⟩) (2 * k) cd) (.int .u64 tau) 81)
  have HR := hid hr
  have HV := hid hv
  clear hr hv hcd hcm
  obtain ⟨k2, hk2⟩ : ∃ x, 2 * k = x := ⟨_, rfl⟩
  rw [hk2] at HEN HS0 HR ⊢
  have HK2 := hid hk2
  clear hk2
  have hmk := run_make_row' (P := Tryd.prog) 25 45 (.int .u64 0) 8 Tryd.underlying25 Tryd.infoU rfl .i64 .i64 k (by omega) (by omega)
  go_enter Tryd.func77, Tryd.ntmps77
  go_wp2_with fail
  generalize w.alloc (.cells #[.int .i64 i, .slice az nz cz, .slice (some ⟨bd, od, none⟩) k2 cd, .int .u64 tau] 81) = W1 at HS0 ⊢
  refine (HEN.out _).mono ?_
  rintro e w1 ⟨rfl, hb⟩
  have HB1 := hid (HS0.out.bel.trans (hb.mono HS0.out.bel.size))
  clear hb HS0 HEN
  go_wp2_with fail
  clear hmk
  go_loopg [19] k (fun q i wr => ∃ t : Nat, t ≤ k ∧ q = k - t ∧ i = .int .i64 (t : Int) ∧ Hid (Made w1 wr k (fun j => if j < t then linQ d (fun j => d (k + j)) s j else 0)))
  case atStart => exact ⟨0, by omega, rfl, rfl, hid ((Made.start w1 k 45).congr fun j _ => by rw [if_neg (by omega)])⟩
  case round =>
    obtain ⟨t, ht, rfl, rfl, HM⟩ := hrel
    by_cases htl : t < k
    · have hbw : Below w.heap.size w wr := HB1.out.trans (HM.out.below.mono HB1.out.size)
      have hk2 := HK2.out
      have hrw := HR.out.kept hbw (HR.out.lt (by omega))
      have c1 := hrw t (by omega)
      have c2 := hrw (k + t) (by omega)
      rw [← Nat.add_assoc] at c2
      have c3 := HM.out.cell t htl
      have f3 := HM.out.frozen t htl
      rw [if_neg (by omega)] at c3
      obtain ⟨a, ha⟩ : ∃ a, d t = a := ⟨_, rfl⟩
      obtain ⟨y, hy⟩ : ∃ a, d (k + t) = a := ⟨_, rfl⟩
      obtain ⟨a0, a1⟩ := HV.out t
      obtain ⟨y0, y1⟩ := HV.out (k + t)
      rw [ha] at c1 a0 a1
      rw [hy] at c2 y0 y1
      have HA := hid (And.intro ha hy)
      obtain ⟨q1, q2⟩ := subQ_rng y a
      obtain ⟨q3, q4⟩ := mulQ_rng s (subQ y a)
      clear ha hy hrw hbw hk2
      have t0 : (0 : Int) ≤ (t : Int) := by omega
      have t1 : (t : Int) < (k : Int) := by omega
      go_wp2_with fail
      refine wp_region_still_tail 19 Tryd.mixed (by kernel_rfl) ?_
      simp only [List.take_succ_cons, List.take_zero, List.drop_succ_cons, List.drop_zero]
      iterate 15 still_step
      still_call (sub_any y a _ (by omega) (by omega) (by omega) (by omega))
      still_call (mul_any s (subQ y a) _ (by omega) (by omega) (by omega) (by omega))
      still_call (add_any a (mulQ s (subQ y a)) _ (by omega) (by omega) (by omega) (by omega))
      still_step
      refine wpStill_nil ?_
      go_wp2_with fail
      go_roundg (k - (t + 1))
      case measure => go_light; omega
      case rel => exact ⟨t + 1, by omega, rfl, by go_num, hid ((HM.out.drew.store t _ htl).congr fun j _ => bet_step d (fun j => d (k + j)) s a y t j HA.out.1 HA.out.2)⟩
    · have e : t = k := by omega
      subst e
      go_wp2_with fail
      go_ret
      exact ⟨_, rfl, HB1.out.size, HM.out.row.congr (fun j hj => by rw [if_pos hj]), HB1.out.trans (HM.out.below.mono HB1.out.size)⟩

set_option maxHeartbeats 2000000 in
set_option maxRecDepth 100000 in
theorem next_any (i : Int) (az : Option Addr) (nz cz bd od k cd : Nat) (tau : Int) (d : Nat → Int) (w : World) (hk : k ≤ 100) (hcd : 2 * k < cd) (hcm : cd ≤ maxLen) (hr : Row w bd od (2 * k) d) (hv : Nums d) (s0 : 0 ≤ tau) (s1 : tau ≤ 18446744073709551615) (hb0 : bd < w.heap.size) :
    Calls Tryd.prog 40 #[turnV i az nz cz (some ⟨bd, od, none⟩) (2 * k) cd tau] w fun e w' => ∃ B, e = .returned (.slice (some ⟨B, 0, none⟩) k k) ∧ w.heap.size ≤ B ∧ Row w' B 0 k (linQ d (fun j => d (k + j)) tau) ∧ Below w.heap.size w w' := by
  have hal := (Below.refl w.heap.size w).alloc (Nat.le_refl _) (.cells #[.int .i64 i, .slice az nz cz, .slice (some ⟨bd, od, none⟩) (2 * k) cd, .int .u64 tau] 81)
  have HBE := hid (between_any i az nz cz bd od k cd tau tau d _ hk hcd hcm (hr.kept hal hb0) hv s0 s1)
  have HB := hid hal
  clear hr hv hcd hcm hal
  obtain ⟨k2, hk2⟩ : ∃ x, 2 * k = x := ⟨_, rfl⟩
  rw [hk2] at HBE HB ⊢
  clear hk2
  go_enter Tryd.func40, Tryd.ntmps40
  go_wp2_with fail
  refine (HBE.out).mono ?_
  rintro e w1 ⟨B, rfl, hB, hrow, hb⟩
  have HF := hid (And.intro hB (And.intro hrow hb))
  clear hB hrow hb
  go_wp2_with fail
  go_ret
  exact ⟨B, rfl, Nat.le_trans HB.out.size HF.out.1, HF.out.2.1, HB.out.trans (HF.out.2.2.mono HB.out.size)⟩

end Go.Proofs.YtkhacijkfjcdeaaDoor

/-
  Contracts of package gkr's Draws and Form, of every circuit and every proof; they make new rows and write nothing that was there.
-/
namespace Go.Proofs.YtkhacijkfjcdeaaDoor
open Go.RowKit
set_option linter.unusedVariables false
attribute [local go_sem ↓] Go.wp_at_zero Go.wp_at_succ

theorem right_addr {c : CQ} (hc : c.right) {w : World} {ao : Option Addr} {A : Nat → Option Addr} {C : Nat → Nat} (hr : CRow w ao c.layers A C) : ∃ b off, ao = some ⟨b, off, none⟩ := by
  obtain ⟨b, off, e, _⟩ := hr hc.some
  exact ⟨b, off, e⟩
set_option maxHeartbeats 2000000 in
set_option maxRecDepth 100000 in
theorem draws_bad (c : CQ) (g : Int) (ao : Option Addr) (n cap : Nat) (A : Nat → Option Addr) (C : Nat → Nat) (x : Int) (w : World) (hg : c.log = g) (hn : c.layers.length = n) (hr : CRow w ao c.layers A C) (hx : checkE c x) (hx0 : x ≠ 0) :
    Calls Tryd.prog 27 #[.agg #[.int .i64 g, .slice ao n cap]] w fun e w' => e = .returned (.tuple #[.int .i64 0, .int .i64 x]) ∧ Below w.heap.size w w' := by
  have HS0 := hid (StW.start w g (.slice ao n cap) 24)
  have HC : Hid (∀ W, Below w.heap.size w W → Calls Tryd.prog 33 #[.agg #[.int .i64 g, .slice ao n cap]] W fun e w' => e = .returned (.int .i64 x) ∧ Below W.heap.size W w') := hid (fun W h => (check_any c g ao n cap A C W hg hn (hr.kept h)).mono fun e w' ⟨y, he, hy, hb⟩ => ⟨by rw [he, checkE_one hy hx], hb⟩)
  have e1 : (x != 0) = true := by simp [hx0]
  clear hr hg hn hx hx0
  go_enter Tryd.func27, Tryd.ntmps27
  go_wp2_with fail
  refine (HC.out _ HS0.out.bel).mono ?_
  rintro e w1 ⟨rfl, hb⟩
  have HB := hid (HS0.out.bel.trans (hb.mono HS0.out.bel.size))
  clear hb
  go_wp2_with fail
  go_ret2
  exact ⟨rfl, HB.out⟩
set_option maxHeartbeats 2000000 in
set_option maxRecDepth 100000 in
theorem draws_ok (c : CQ) (g : Int) (b off n cap : Nat) (A : Nat → Option Addr) (C : Nat → Nat) (w : World) (hg : c.log = g) (hn : c.layers.length = n) (hr : CRow w (some ⟨b, off, none⟩) c.layers A C) (hc : c.right) :
    Calls Tryd.prog 27 #[.agg #[.int .i64 g, .slice (some ⟨b, off, none⟩) n cap]] w fun e w' => e = .returned (.tuple #[.int .i64 (needQ c : Int), .int .i64 0]) ∧ Below w.heap.size w w' := by
  have HS0 := hid (StW.start w g (.slice (some ⟨b, off, none⟩) n cap) 24)
  have HC : Hid (∀ W, Below w.heap.size w W → Calls Tryd.prog 33 #[.agg #[.int .i64 g, .slice (some ⟨b, off, none⟩) n cap]] W fun e w' => e = .returned (.int .i64 0) ∧ Below W.heap.size W w') := hid (fun W h => (check_any c g _ n cap A C W hg hn (hr.kept h)).mono fun e w' ⟨y, he, hy, hb⟩ => ⟨by rw [he, checkE_one hy (checkE_zero.2 hc)], hb⟩)
  have HD := hid (fun W (h : Below w.heap.size w W) => cdraws_any c g b off n cap A C W hg hn (hr.kept h) hc)
  generalize needQ c = q at HD ⊢
  clear hr hg hn hc
  go_enter Tryd.func27, Tryd.ntmps27
  go_wp2_with fail
  obtain ⟨B, hB⟩ : ∃ B, w.heap.size = B := ⟨_, rfl⟩
  have HS1 : Hid (StW w (w.alloc (.cells #[.int .i64 g, .slice (some ⟨b, off, none⟩) n cap] 24)) B g (.slice (some ⟨b, off, none⟩) n cap)) := hid (by rw [← hB]; exact HS0.out)
  rw [hB]
  clear hB HS0
  generalize w.alloc (.cells #[.int .i64 g, .slice (some ⟨b, off, none⟩) n cap] 24) = W1 at HS1 ⊢
  refine (HC.out _ HS1.out.bel).mono ?_
  rintro e w1 ⟨rfl, hb⟩
  have HS2 := hid (HS1.out.next hb)
  clear hb HS1 HC
  obtain ⟨z0, z1, zl⟩ := HS2.out.box
  go_wp2_with fail
  refine (HD.out _ HS2.out.bel).mono ?_
  rintro e w2 ⟨rfl, hb⟩
  have HS3 := hid (HS2.out.next hb)
  clear hb HS2 HD z0 z1 zl
  go_wp2_with fail
  go_ret2
  exact ⟨rfl, HS3.out.bel⟩

/-- What holds all along: the circuit's box, the proof's box, and that nothing was written. -/
structure StQ (w W : World) (X : Nat) (g : Int) (v vp : Value) : Prop where
  bel : Below w.heap.size w W
  box : Box2 W X (.int .i64 g) v
  pc : W.cell? ⟨X + 1, 0, none⟩ = some vp
theorem StQ.next {w W W' : World} {X : Nat} {g : Int} {v vp : Value} (h : StQ w W X g v vp) (hb : Below W.heap.size W W') : StQ w W' X g v vp := ⟨h.bel.trans (hb.mono h.bel.size), h.box.kept hb, (hb.cell (World.block_lt_of_cell? W _ h.pc)).trans h.pc⟩
theorem StQ.start (w : World) (g : Int) (v vp : Value) (t t' : TypeId) : StQ w ((w.alloc (.cells #[.int .i64 g, v] t)).alloc (.cells #[vp] t')) w.heap.size g v vp := by
  have h1 := StW.start w g v t
  have e : (w.alloc (.cells #[.int .i64 g, v] t)).heap.size = w.heap.size + 1 := by simp
  generalize w.alloc (.cells #[.int .i64 g, v] t) = W1 at h1 e
  have hal := (Below.refl W1.heap.size W1).alloc (Nat.le_refl _) (.cells #[vp] t')
  have h2 := h1.next hal
  exact ⟨h2.bel, h2.box, by rw [← e, World.cell?_alloc_new]; rfl⟩
/-- Form's error. -/
def formE (c : CQ) (p : PQ) (x : Int) : Prop := (checkE c x ∧ x ≠ 0) ∨ (c.right ∧ shapedQ c p ∧ x = 0) ∨ (c.right ∧ ¬ shapedQ c p ∧ x = 4)

set_option maxHeartbeats 2000000 in
set_option maxRecDepth 100000 in
theorem form_bad (c : CQ) (g : Int) (ao : Option Addr) (n cap : Nat) (A : Nat → Option Addr) (C : Nat → Nat) (ap : Option Addr) (np cp : Nat) (x : Int) (w : World) (hg : c.log = g) (hn : c.layers.length = n) (hr : CRow w ao c.layers A C) (hx : checkE c x) (hx0 : x ≠ 0) :
    Calls Tryd.prog 10 #[.agg #[.int .i64 g, .slice ao n cap], .agg #[.slice ap np cp]] w fun e w' => e = .returned (.int .i64 x) ∧ Below w.heap.size w w' := by
  have HS0 := hid (StQ.start w g (.slice ao n cap) (.slice ap np cp) 24 28)
  have HC : Hid (∀ W, Below w.heap.size w W → Calls Tryd.prog 33 #[.agg #[.int .i64 g, .slice ao n cap]] W fun e w' => e = .returned (.int .i64 x) ∧ Below W.heap.size W w') := hid (fun W h => (check_any c g ao n cap A C W hg hn (hr.kept h)).mono fun e w' ⟨y, he, hy, hb⟩ => ⟨by rw [he, checkE_one hy hx], hb⟩)
  have e1 : (x != 0) = true := by simp [hx0]
  clear hr hg hn hx hx0
  go_enter Tryd.func10, Tryd.ntmps10
  go_wp2_with fail
  refine (HC.out _ HS0.out.bel).mono ?_
  rintro e w1 ⟨rfl, hb⟩
  have HB := hid (HS0.out.bel.trans (hb.mono HS0.out.bel.size))
  clear hb
  go_wp2_with fail
  go_ret
  exact ⟨rfl, HB.out⟩

set_option maxHeartbeats 4000000 in
set_option maxRecDepth 100000 in
theorem form_right (c : CQ) (g : Int) (b off n cap : Nat) (A : Nat → Option Addr) (C : Nat → Nat) (ap : Option Addr) (np cp : Nat) (p : PQ) (m : PM) (w : World) (hg : c.log = g) (hn : c.layers.length = n) (hr : CRow w (some ⟨b, off, none⟩) c.layers A C) (hc : c.right) (hp : p.n = np) (hpr : PfRow w ap p m) :
    Calls Tryd.prog 10 #[.agg #[.int .i64 g, .slice (some ⟨b, off, none⟩) n cap], .agg #[.slice ap np cp]] w fun e w' => ∃ x, e = .returned (.int .i64 x) ∧ formE c p x ∧ Below w.heap.size w w' := by
  have n4 : n ≤ 4 := by have := hc.few; omega
  have HS0 := hid (StQ.start w g (.slice (some ⟨b, off, none⟩) n cap) (.slice ap np cp) 24 28)
  have HCK : Hid (∀ W, Below w.heap.size w W → Calls Tryd.prog 33 #[.agg #[.int .i64 g, .slice (some ⟨b, off, none⟩) n cap]] W fun e w' => e = .returned (.int .i64 0) ∧ Below W.heap.size W w') := hid (fun W h => (check_any c g _ n cap A C W hg hn (hr.kept h)).mono fun e w' ⟨y, he, hy, hb⟩ => ⟨by rw [he, checkE_one hy (checkE_zero.2 hc)], hb⟩)
  have HLG := hid (fun W (h : Below w.heap.size w W) => logs_any c g b off n cap A C W hg hn n4 (hr.kept h))
  have HC := hid hc
  have HN := hid hn
  have HP := hid hp
  have HPR := hid hpr
  clear hr hg hn hc hp hpr
  go_enter Tryd.func10, Tryd.ntmps10
  go_wp2_with fail
  obtain ⟨X, hX⟩ : ∃ X, w.heap.size = X := ⟨_, rfl⟩
  rw [hX] at HS0
  rw [hX]
  clear hX
  generalize (w.alloc (.cells #[.int .i64 g, .slice (some ⟨b, off, none⟩) n cap] 24)).alloc (.cells #[.slice ap np cp] 28) = W0 at HS0 ⊢
  refine (HCK.out _ HS0.out.bel).mono ?_
  rintro e w1 ⟨rfl, hb⟩
  have HS1 := hid (HS0.out.next hb)
  clear hb HS0 HCK
  obtain ⟨z0, z1, zl⟩ := HS1.out.box
  have zp := HS1.out.pc
  by_cases hnp : np = n
  · have e1 : ((np : Int) != (n : Int)) = false := neq_of (by omega)
    go_wp2_with fail
    clear e1
    refine (HLG.out _ HS1.out.bel).mono ?_
    rintro e w2 ⟨L, cl, rfl, hcl, hL, hrow, hb⟩
    have HS2 := hid (HS1.out.next hb)
    have HROW := hid hrow
    clear hb HS1 HLG hL hrow z0 z1 zl zp
    obtain ⟨z0, z1, zl⟩ := HS2.out.box
    have zp := HS2.out.pc
    go_wp2_with fail
    clear z0 z1 zl zp
    subst hnp
    go_loopg [26] np (fun q i wr => ∃ t : Nat, t ≤ np ∧ q = np - t ∧ i = .int .i64 (t : Int) ∧ Hid (∀ j, j < t → formQ (p.rn j) (p.ln j) ((partsQ c).lg (j + 1)) (p.rl j)) ∧ Hid (StQ w wr X g (.slice (some ⟨b, off, none⟩) np cap) (.slice ap np cp)) ∧ Hid (IRow wr L 0 (np + 1) (belowQ c)))
    case atStart => exact ⟨0, by omega, rfl, rfl, hid (fun j hj => absurd hj (by omega)), HS2, HROW⟩
    case round =>
      clear HS2 HROW
      obtain ⟨t, ht, rfl, rfl, HOK, HS, HROW⟩ := hrel
      by_cases htl : t < np
      · obtain ⟨i, hi⟩ : ∃ i : Nat, i + t + 1 = np := ⟨np - 1 - t, by omega⟩
        obtain ⟨bk, hbk, bk4⟩ := belowQ_rng HC.out i
        have HLK := hid (lg_of HN.out hi hbk)
        obtain ⟨pb, po, rfl, hcl2⟩ := HPR.out.kept HS.out.bel (by rw [HP.out]; omega)
        obtain ⟨y0, y1, y2, _⟩ := hcl2 t (by rw [HP.out]; exact htl)
        rw [Nat.mul_comm 2 t] at y0 y1
        obtain ⟨ra, hra⟩ : ∃ x, m.ra t = x := ⟨_, rfl⟩
        obtain ⟨rn, hrn⟩ : ∃ x, p.rn t = x := ⟨_, rfl⟩
        obtain ⟨rc, hrc⟩ : ∃ x, m.rc t = x := ⟨_, rfl⟩
        obtain ⟨la, hla⟩ : ∃ x, m.la t = x := ⟨_, rfl⟩
        obtain ⟨ln, hln⟩ : ∃ x, p.ln t = x := ⟨_, rfl⟩
        obtain ⟨lc, hlc⟩ : ∃ x, m.lc t = x := ⟨_, rfl⟩
        rw [hra, hrn, hrc] at y0
        rw [hla, hln, hlc] at y1
        rw [hra, hrn] at y2
        have HLR := hid y2
        have HRN := hid (And.intro hrn hln)
        clear hcl2 y2 hra hrn hrc hla hln hlc
        have hal := (Below.refl wr.heap.size wr).alloc (Nat.le_refl _) (.cells #[.slice ra rn rc, .slice la ln lc] 74)
        have HS1 := hid (HS.out.next hal)
        have HR1 := hid (HROW.out.kept hal)
        have HL1 := hid (HLR.out.kept hal)
        have HB1 := hid (Box2.new wr (.slice ra rn rc) (.slice la ln lc) 74)
        have t0 : (0 : Int) ≤ (t : Int) := by omega
        have t1 : (t : Int) < (np : Int) := by omega
        clear hal HLR HROW HS
        go_wp2_with fail
        obtain ⟨PB, hPB⟩ : ∃ x, wr.heap.size = x := ⟨_, rfl⟩
        rw [hPB] at HB1
        rw [hPB]
        clear hPB y0 y1
        generalize wr.alloc (.cells #[.slice ra rn rc, .slice la ln lc] 74) = W2 at HS1 HR1 HL1 HB1 ⊢
        obtain ⟨z0, z1, zl⟩ := HS1.out.box
        obtain ⟨b0, b1, bl⟩ := HB1.out
        have x0 := HR1.out i (by omega)
        rw [Nat.zero_add, hbk] at x0
        have HF := hid (fun W (h : Below W2.heap.size W2 W) => hasForm_any ra la rn rc ln lc bk (m.A t) (p.rl t) (m.C t) (p.R t) W bk4 (HL1.out.kept h))
        have hw1 : IntKind.i64.wrap ((np : Int) - 1) = (np : Int) - 1 := IntWalk.i64_in _ (by omega)
        have hw2 : IntKind.i64.wrap ((np : Int) - 1 - (t : Int)) = (i : Int) := by rw [show (np : Int) - 1 - (t : Int) = (i : Int) from by omega]; exact IntWalk.i64_in _ (by omega)
        have i0 : (0 : Int) ≤ (i : Int) := by omega
        have i1 : (i : Int) < (np : Int) + 1 := by omega
        clear hbk
        go_region_held3 (fun W' => (W'.cell? ⟨PB, 0, none⟩ = some (.slice ra rn rc) ∧ W'.cell? ⟨PB, 1, none⟩ = some (.slice la ln lc)) ∧ W'.cell? ⟨X, 1, none⟩ = some (.slice (some ⟨b, off, none⟩) np cap) ∧ W'.cell? ⟨L, i, none⟩ = some (.int .i64 (bk : Int))) (first | assumption | exact ⟨⟨b0, b1⟩, z1, x0⟩ | exact zx) (first
          | (go_at_call 35; refine (HF.out _ (Below.refl _ W2).drew).mono ?_; rintro e w3 ⟨r, rfl, hrr, hb⟩; have hb3 : Below W2.heap.size W2 w3 := (Below.refl _ W2).drew.trans hb; have zx : (w3.cell? ⟨PB, 0, none⟩ = some (.slice ra rn rc) ∧ w3.cell? ⟨PB, 1, none⟩ = some (.slice la ln lc)) ∧ w3.cell? ⟨X, 1, none⟩ = some (.slice (some ⟨b, off, none⟩) np cap) ∧ w3.cell? ⟨L, i, none⟩ = some (.int .i64 (bk : Int)) := ⟨⟨(hb3.cell bl).trans b0, (hb3.cell bl).trans b1⟩, (hb3.cell zl).trans z1, (hb3.cell (World.block_lt_of_cell? W2 _ x0)).trans x0⟩; clear hb))
        have HS3 := hid (HS1.out.next hb3)
        have HR3 := hid (HR1.out.kept hb3)
        have HRR := hid hrr
        clear zx hb3 hrr HS1 HR1 HL1 HB1 z0 z1 zl b0 b1 bl x0 HF
        cases r with
        | false =>
          have HNO : Hid (¬ shapedQ c p) := hid (fun h => by
            obtain ⟨h1, h2, h3⟩ := h.2 t (by rw [HP.out]; exact htl)
            rw [HLK.out] at h1 h2
            rw [HRN.out.1] at h1 h3
            rw [HRN.out.2] at h2
            exact Bool.false_ne_true (HRR.out.2 ⟨h1, h2, h3⟩))
          go_wp2_with fail
          go_ret
          exact ⟨4, rfl, .inr (.inr ⟨HC.out, HNO.out, rfl⟩), HS3.out.bel⟩
        | true =>
          have HON : Hid (∀ j, j < t + 1 → formQ (p.rn j) (p.ln j) ((partsQ c).lg (j + 1)) (p.rl j)) := hid (fun j hj => by
            by_cases e : j = t
            · rw [e, HLK.out, HRN.out.1, HRN.out.2]; exact HRR.out.1 (by first | rfl | trivial)
            · exact HOK.out j (by omega))
          go_wp2_with fail
          go_roundg (np - (t + 1))
          case measure => go_light; omega
          case rel => exact ⟨t + 1, by omega, rfl, by go_num, HON, HS3, HR3⟩
      · have e : t = np := by omega
        have HYES : Hid (shapedQ c p) := hid ⟨by rw [HP.out, HN.out], fun j hj => HOK.out j (by rw [HP.out] at hj; omega)⟩
        have t1 : ¬ ((t : Int) < (np : Int)) := by omega
        clear e
        go_wp2_with fail
        go_ret
        exact ⟨0, rfl, .inr (.inl ⟨HC.out, HYES.out, rfl⟩), HS.out.bel⟩
  · have e1 : ((np : Int) != (n : Int)) = true := by simp; omega
    have HNO : Hid (¬ shapedQ c p) := hid (fun h => hnp (by rw [← HP.out, h.1, HN.out]))
    clear hnp
    go_wp2_with fail
    go_ret
    exact ⟨4, rfl, .inr (.inr ⟨HC.out, HNO.out, rfl⟩), HS1.out.bel⟩

end Go.Proofs.YtkhacijkfjcdeaaDoor

/-
  A range over a function whose rounds are known ahead: what comes in round k is f k, and there are N rounds; the body never leaves the loop. Of every program; nothing of this one in it.
-/
namespace Go.Proofs.YtkhacijkfjcdeaaDoor
open Go.RowKit
set_option linter.unusedVariables false

/-- What a round keeps: all that lay below n₀, and block Bs (what the iterator has captured). -/
structure KeepB (n₀ Bs : Nat) (W W' : World) : Prop where
  bel : Below n₀ W W'
  blk : W'.heap[Bs]? = W.heap[Bs]?
theorem KeepB.refl (n₀ Bs : Nat) (W : World) : KeepB n₀ Bs W W := ⟨Below.refl _ _, rfl⟩
theorem KeepB.trans {n₀ Bs : Nat} {A B C : World} (h : KeepB n₀ Bs A B) (k : KeepB n₀ Bs B C) : KeepB n₀ Bs A C := ⟨h.bel.trans k.bel, k.blk.trans h.blk⟩
theorem KeepB.below {n₀ Bs : Nat} {W W' : World} (h : Below W.heap.size W W') (hn : n₀ ≤ W.heap.size) (hB : Bs < W.heap.size) : KeepB n₀ Bs W W' := ⟨h.mono hn, h.block Bs hB⟩
theorem KeepB.put {n₀ Bs l : Nat} (W : World) (o' : Obj) (hl : n₀ ≤ l) (hs : l < W.heap.size) (hB : Bs < l) : KeepB n₀ Bs W (W.putObj l o') :=
  ⟨(Below.refl n₀ W).grown (grownBy_putObj' W l o') (by omega) (fun j e => by cases e; omega), World.putObj_heap_other (by omega)⟩
/-- The iterator gf yields f 0, .., f (N - 1), where each round goes on and keeps what lay below n₀. -/
def KnownSeq (F : Fence) (n : Nat) (P : Program) (gf : Nat) (lb : Array Value) (f : Nat → Array Value) (N n₀ Bs : Nat) (w : World) : Prop :=
  ∀ (l : Nat) (J : Nat → World → Prop) (W : World), Below w.heap.size w W →
    (∀ k W1, k < N → J k W1 → YieldAt F (n - 1) P l (f k) W1 fun e W' => e = .returned (.bool true) ∧ J (k + 1) W' ∧ KeepB n₀ Bs W1 W') →
    J 0 W → CallsIn F n P gf (#[.func (.yield l) #[] #[]] ++ lb) W fun e W' => (∃ v, e = .returned v) ∧ J N W'
/-- The body is left by its end alone. -/
def knownPost (B n₀ Bs : Nat) (I : Nat → World → Prop) (k : Nat) (W : World) : Exit → Act → World → Prop
  | .normal, _, W' => KeepsFrom B W W' ∧ KeepB n₀ Bs W W' ∧ I k W'
  | .ret, _, _ => False
  | .exit _, _, _ => False
  | .goto _, _, _ => False
  | .panic _, _, _ => False
  | .outgrown, _, _ => False

theorem range_known {F : Fence} {n : Nat} {P : Program} {g : Operand} {ps : Array Tmp} {assign body : Code} {Q : Exit → Act → World → Prop} {a : Act} {w : World} (hro : F.round = none) (h1 : 1 ≤ n)
    {gf : Nat} {lb : Array Value} (hg : a.eval g = .func (.func gf) #[] lb) (hFg : F.fn gf) (eg : ∀ args w, (callFunc gf args).run P w = .ok (.enter gf args) w)
    {f : Nat → Array Value} {N n₀ Bs : Nat} (hn₀ : n₀ ≤ w.heap.size) (hBs : Bs < w.heap.size) (hseq : KnownSeq F (n - 1) P gf lb f N n₀ Bs w) (hps : ∀ k, (f k).size = ps.size)
    (I : Nat → World → Prop) (hI : OwnFrom w.heap.size I) (h0 : I 0 w) (a₁ : Nat → Act)
    (hassign : ∀ (l k : Nat) (W : World) (K : Act → World → Prop), K (a₁ k) W →
      assign.wpIn (F.inRound l) (n - 1 - 1) P (Exit.then K (fun _ _ _ => False)) { tmps := (ps.zip (f k)).foldl (fun t (p, v) => t.setIfInBounds p v) a.tmps, defers := [] } W)
    (hbody : ∀ (l k : Nat) (W : World), k < N → I k W → body.wpIn (F.inRound l) (n - 1 - 1) P (knownPost w.heap.size n₀ Bs I (k + 1) W) (a₁ k) W)
    (hdone : ∀ (D : Nat) (W : World), w.heap.size ≤ D → I N W → W.heap[D]? = some (.deferred (some [])) → Q .normal { a with defers := { target := .collected D, args := #[] } :: a.defers } W) :
    (Code.rangeFunc g ps assign body).wpIn F n P Q a w := by
  refine wpIn_rangeFunc fun fn hfn => ?_
  obtain ⟨L, hL⟩ : ∃ L : LoopState → Loop, L = fun st => { state := st, pending := none, fn, tmps := a.tmps, params := ps, assign, body, defers := w.heap.size } := ⟨_, rfl⟩
  obtain ⟨B, hB⟩ : ∃ B, w.heap.size = B := ⟨_, rfl⟩
  obtain ⟨W0, hW0⟩ : ∃ W0, (w.alloc (.deferred (some []))).alloc (.loop (L .ready)) = W0 := ⟨_, rfl⟩
  have s0 : w.heap.size < (w.alloc (.deferred (some []))).heap.size := by simp
  have c1 : W0.heap[B + 1]? = some (.loop (L .ready)) := by
    rw [← hW0, ← hB, ← World.size_alloc w (.deferred (some []))]; exact World.alloc_heap_new _ _
  have c2 : W0.heap[B]? = some (.deferred (some [])) := by
    rw [← hW0, ← hB, Below.heap_alloc _ _ _ s0]; exact World.alloc_heap_new w _
  have c3 : I 0 W0 := by rw [← hW0]; exact hI.alloc _ (hI.alloc _ h0)
  have c4 : Below w.heap.size w W0 := by rw [← hW0]; exact ((Below.refl _ w).alloc (Nat.le_refl _) _).alloc (by omega) _
  rw [hB] at hI hbody hdone hn₀ hBs
  have keep : ∀ {k : Nat} {W : World} {o : Obj} (l : Nat) (o' : Obj), I k W → B ≤ l → W.heap[l]? = some o → o.isCells = false → I k (W.putObj l o') := fun l o' hi hl ho hc => hI.putObj o' hi hl ho hc
  refine ⟨B + 1, [{ target := .collected B, args := #[] }], W0, { target := .fn (.func gf) lb, args := #[.func (.yield (B + 1)) #[] #[]] }, W0, gf, #[.func (.yield (B + 1)) #[] #[]] ++ lb, W0, ?_, ?_, ?_, ?_, fun _ => h1, ?_⟩
  · rw [hro, ← hW0, hL, ← hB]; exact run_enterLoop_outer _ _ _ _ _
  · simp only [resolve, hg]
    simp [go_sem]
  · intro f' hf'
    simp [Target.leads] at hf'
    subst hf'
    exact hFg
  · simp [invoke, go_sem, eg]
  · refine (hseq (B + 1) (fun k W => I k W ∧ W.heap[B + 1]? = some (.loop (L .ready)) ∧ W.heap[B]? = some (.deferred (some []))) W0 c4 ?_ ⟨c3, c1, c2⟩).mono ?_
    · rintro k W hk ⟨hi, hl, hd⟩
      have hlt : B + 1 < W.heap.size := (Array.getElem?_eq_some_iff.1 hl).1
      have hy := run_yield (P := P) (args := f k) hl (by rw [hL]; exact hps k)
      have hbeg := run_beginRound (P := P) hl (by rw [hL])
      obtain ⟨X, hX⟩ : ∃ X, W.putObj (B + 1) (.loop { L .ready with state := .busy }) = X := ⟨_, rfl⟩
      rw [hX] at hbeg
      have x1 : X.heap[B + 1]? = some (.loop { L .ready with state := .busy }) := by rw [← hX]; exact World.putObj_heap_same hlt
      have x2 : X.heap[B]? = some (.deferred (some [])) := by rw [← hX]; exact (World.putObj_heap_other (by omega)).trans hd
      have x3 : I k X := by rw [← hX]; exact keep _ _ hi (by omega) hl rfl
      have x4 : KeepB n₀ Bs W X := by rw [← hX]; exact KeepB.put W _ (by omega) hlt (by omega)
      rw [hL] at hy
      refine ⟨fn, _, assign, body, hy, roundIn_of_wpIn hfn (hassign _ k W _ ⟨X, hbeg, wpIn_mono (hbody _ k X hk x3) ?_⟩)⟩
      intro e a3 W3 hp
      cases e with
      | normal =>
        obtain ⟨p1, p2, p3⟩ := hp
        have y1 := p1.same _ _ (by omega) x1 rfl
        have y2 := p1.same _ _ (Nat.le_refl _) x2 rfl
        have hlt3 : B + 1 < W3.heap.size := (Array.getElem?_eq_some_iff.1 y1).1
        have hend := run_endRound (P := P) none y1
        refine ⟨_, _, hend, rfl, ⟨keep _ _ p3 (by omega) y1 rfl, ?_, (World.putObj_heap_other (by omega)).trans y2⟩, x4.trans (p2.trans (KeepB.put W3 _ (by omega) hlt3 (by omega)))⟩
        rw [World.putObj_heap_same hlt3, hL]
        rfl
      | ret => exact hp.elim
      | exit id => exact hp.elim
      | goto t => exact hp.elim
      | panic ch => exact hp.elim
      | outgrown => exact hp.elim
    · rintro e W2 ⟨⟨v, rfl⟩, hi, hl, hd⟩
      have hend := run_endLoop (P := P) hl (by rw [hL]; simp)
      rw [show (L .ready).pending = none from by rw [hL]] at hend
      refine ⟨none, _, hend, hdone B _ (Nat.le_refl _) (keep _ _ hi (by omega) hl rfl) ((World.putObj_heap_other (by omega)).trans hd)⟩

/-- A piece of code that ends in one frame and one world. -/
def midPost (A : Act) (W : World) : Exit → Act → World → Prop
  | .normal, a, w => a = A ∧ w = W
  | .ret, _, _ => False
  | .exit _, _, _ => False
  | .goto _, _, _ => False
  | .panic _, _, _ => False
  | .outgrown, _, _ => False
theorem mid_in {F : Fence} {n : Nat} {P : Program} {c : Code} {Q : Exit → Act → World → Prop} {a A : Act} {w W : World} (h : c.wpIn F n P (midPost A W) a w) (hQ : Q .normal A W) : c.wpIn F n P Q a w := by
  refine wpIn_mono h fun e a' w' hp => ?_
  cases e with
  | normal => obtain ⟨rfl, rfl⟩ := hp; exact hQ
  | ret => exact hp.elim
  | exit id => exact hp.elim
  | goto t => exact hp.elim
  | panic ch => exact hp.elim
  | outgrown => exact hp.elim

end Go.Proofs.YtkhacijkfjcdeaaDoor

/-
  slices.Backward over a circuit's layers: what its closure yields, round by round; it reads alone.
-/
namespace Go.Proofs.YtkhacijkfjcdeaaDoor
open Go.RowKit Go.Shelf
set_option linter.unusedVariables false
attribute [local go_sem] Oper.semAt_some

/-- What comes in round k: the place from the end on, and the layer there. -/
def backV (ls : List LQ) (A : Nat → Option Addr) (C : Nat → Nat) (n k : Nat) : Array Value :=
  #[.int .i64 ((n : Int) - 1 - (k : Int)), .agg #[.int .i64 (((ls[n - 1 - k]?).map LQ.log).getD 0), .slice (A (n - 1 - k)) (((ls[n - 1 - k]?).map fun l => l.gates.length).getD 0) (C (n - 1 - k))]]

set_option maxRecDepth 100000 in
set_option maxHeartbeats 2000000 in
theorem back1_in (n1 l Bs n₀ b off n cap : Nat) (ls : List LQ) (A : Nat → Option Addr) (C : Nat → Nat) (hn1 : 1 ≤ n1) (hn : ls.length = n) (n4 : n ≤ 1000) (hb : b < n₀) (J : Nat → World → Prop) (W : World)
    (hY : ∀ k W1, k < n → J k W1 → YieldAt Fence.wide (n1 - 1) Tryd.prog l (backV ls A C n k) W1 fun e W' => e = .returned (.bool true) ∧ J (k + 1) W' ∧ KeepB n₀ Bs W1 W')
    (hBs : W.cell? ⟨Bs, 0, none⟩ = some (.slice (some ⟨b, off, none⟩) n cap)) (hr : CRow W (some ⟨b, off, none⟩) ls A C) (h0 : J 0 W) :
    CallsIn Fence.wide n1 Tryd.prog 97 #[.func (.yield l) #[] #[], .pointer (some ⟨Bs, 0, none⟩)] W fun e W' => (∃ v, e = .returned v) ∧ J n W' := by
  refine callsIn_of_wp Tryd.func97 rfl trivial ?_ rfl
  simp only [Tryd.ntmps97, List.size_toArray, List.length_cons, List.length_nil, Nat.reduceAdd, Nat.reduceSub, Array.replicate_succ, Array.replicate_zero, List.push_toArray, List.append_toArray, List.nil_append, List.cons_append]
  gi_wp2
  gi_loopw [3] (fun i wr => ∃ (k : Nat) (x : Int), k ≤ n ∧ i = .int .i64 x ∧ Hid (x = (n : Int) - 1 - (k : Int)) ∧ Hid (J k wr) ∧ Hid (KeepB n₀ Bs W wr)) (fun i _ => (intOf i + 1).toNat)
  case atStart => exact ⟨0, _, Nat.zero_le _, rfl, hid (by omega), hid h0, hid (KeepB.refl _ _ _)⟩
  case round =>
    obtain ⟨k, x, hk, rfl, HX, HJ, HK⟩ := hrel
    by_cases hlt : k < n
    · obtain ⟨j, hj⟩ : ∃ j : Nat, x = (j : Int) := ⟨n - 1 - k, by rw [HX.out]; omega⟩
      subst hj
      have hjn : n - 1 - k = j := by have := HX.out; omega
      obtain ⟨fn, tmps, assign, body, hy, hR⟩ := hY k wr hlt HJ.out
      obtain ⟨q, hq⟩ : ∃ q, ls[j]? = some q := ⟨ls[j]'(by omega), by simp⟩
      obtain ⟨b', off', eb, hc⟩ := hr (by intro e; rw [e] at hn; simp at hn; omega)
      cases eb
      obtain ⟨y0, y1, _, _⟩ := hc j q hq
      rw [Nat.mul_comm 2 j] at y0 y1
      replace y0 := (HK.out.bel.cell (p := ⟨b, off + j * 2, none⟩) hb).trans y0
      replace y1 := (HK.out.bel.cell (p := ⟨b, off + j * 2 + 1, none⟩) hb).trans y1
      have y2 : wr.cell? ⟨Bs, 0, none⟩ = some (.slice (some ⟨b, off, none⟩) n cap) := (World.cell?_of_block (w := W) (a := ⟨Bs, 0, none⟩) HK.out.blk).trans hBs
      unfold backV at hy
      rw [hjn, hq, ← HX.out] at hy
      dsimp only [Option.map_some, Option.getD_some] at hy
      have j0 : (0 : Int) ≤ (j : Int) := by omega
      have j1 : (j : Int) < (n : Int) := by omega
      clear hc hq hjn
      gi_wp2
      refine hR.mono ?_
      rintro e W3 ⟨rfl, hJ3, hk3⟩
      have HJ3 := hid hJ3
      have HK3 := hid (HK.out.trans hk3)
      clear hJ3 hk3 y0 y1 y2
      gi_wp2
      go_roundw
      case rel => exact ⟨k + 1, _, by omega, rfl, hid (by have := HX.out; omega), HJ3, HK3⟩
      case measure => simp [intOf]
    · have e : k = n := by omega
      have hx : x = -1 := by rw [HX.out]; omega
      subst e
      subst hx
      gi_wp2
      go_end0
      exact ⟨⟨_, rfl⟩, HJ.out⟩

/-- The closure, as the law of such loops takes it. -/
theorem back_seq (n1 Bs n₀ b off n cap : Nat) (ls : List LQ) (A : Nat → Option Addr) (C : Nat → Nat) (w : World) (hn1 : 1 ≤ n1) (hn : ls.length = n) (n4 : n ≤ 1000) (hb : b < n₀) (hbw : b < w.heap.size)
    (hBs : w.cell? ⟨Bs, 0, none⟩ = some (.slice (some ⟨b, off, none⟩) n cap)) (hr : CRow w (some ⟨b, off, none⟩) ls A C) :
    KnownSeq Fence.wide n1 Tryd.prog 97 #[.pointer (some ⟨Bs, 0, none⟩)] (backV ls A C n) n n₀ Bs w := fun l J W hW hY h0 =>
  back1_in n1 l Bs n₀ b off n cap ls A C hn1 hn n4 hb J W hY ((hW.cell (World.block_lt_of_cell? w _ hBs)).trans hBs) (hr.kept hW) h0

set_option maxHeartbeats 1000000 in
/-- slices.Backward: the list is boxed; the function captures the box. -/
theorem back_any (a : Option Addr) (n cap : Nat) (w : World) :
    Calls Tryd.prog 72 #[.slice a n cap] w fun e w' => e = .returned (.func (.func 97) #[] #[.pointer (some ⟨w.heap.size, 0, none⟩)]) ∧ w' = w.alloc (.cells #[.slice a n cap] 22) := by
  go_enter Tryd.func72, Tryd.ntmps72
  go_wp2_with fail
  go_ret
  exact ⟨rfl, rfl⟩

end Go.Proofs.YtkhacijkfjcdeaaDoor

/-
  The turns of a proof in memory: what lies there while they are gathered; what stays; no program in it but types' numbers.
-/
namespace Go.Proofs.YtkhacijkfjcdeaaDoor
open Go.RowKit
set_option linter.unusedVariables false

theorem keepsFrom_below {B : Nat} {W W' : World} (h : Below W.heap.size W W') : KeepsFrom B W W' := ⟨h.size, fun k o _ hk _ => (h.block k (Array.getElem?_eq_some_iff.1 hk).1).trans hk⟩
theorem KeepB.set {n₀ Bs : Nat} (W : World) (b : Nat) (v : Value) (hn : n₀ ≤ b) (hB : Bs ≠ b) : KeepB n₀ Bs W (W.setCell ⟨b, 0, none⟩ v) := ⟨(Below.refl n₀ W).setCell (p := ⟨b, 0, none⟩) hn _, Below.heap_setCell _ _ _ _ hB⟩
theorem KeepB.grown {n₀ Bs R : Nat} {W W' : World} (h : W.grownBy W' (some R)) (hn : n₀ ≤ R) (hs : n₀ ≤ W.heap.size) (hB : Bs < W.heap.size) (hR : Bs ≠ R) : KeepB n₀ Bs W W' := ⟨(Below.refl n₀ W).grown h hs (fun j e => by cases e; exact hn), h.block Bs hB (fun e => hR (by cases e; rfl))⟩
/-- The four cells of turn j. -/
def tvals (c : CQ) (bd od cd : Nat) (D : Nat → Int) (Z : Nat → Option Addr) (CZ : Nat → Nat) (j : Nat) : List Value :=
  [.int .i64 ((c.layers.length : Int) - 1 - (j : Int)), .slice (Z j) ((partsQ c).lg j) (CZ j), .slice (some ⟨bd, od + (partsQ c).at j, none⟩) (2 * (partsQ c).lg (j + 1)) (cd - (partsQ c).at j), .int .u64 ((partsQ c).tau D j)]
def tcells (c : CQ) (bd od cd : Nat) (D : Nat → Int) (Z : Nat → Option Addr) (CZ : Nat → Nat) (m : Nat) : List Value := (List.range m).flatMap (tvals c bd od cd D Z CZ)
theorem tcells_succ (c : CQ) (bd od cd : Nat) (D : Nat → Int) (Z : Nat → Option Addr) (CZ : Nat → Nat) (m : Nat) : tcells c bd od cd D Z CZ (m + 1) = tcells c bd od cd D Z CZ m ++ tvals c bd od cd D Z CZ m := by
  simp [tcells, List.range_succ]
theorem tcells_len (c : CQ) (bd od cd : Nat) (D : Nat → Int) (Z : Nat → Option Addr) (CZ : Nat → Nat) (m : Nat) : (tcells c bd od cd D Z CZ m).length = m * 4 := by
  induction m with
  | zero => rfl
  | succ m ih => rw [tcells_succ, List.length_append, ih]; simp [tvals]; omega
theorem tcells_at (c : CQ) (bd od cd : Nat) (D : Nat → Int) (Z : Nat → Option Addr) (CZ : Nat → Nat) (m j r : Nat) (hj : j < m) (hr : r < 4) : (tcells c bd od cd D Z CZ m)[j * 4 + r]? = (tvals c bd od cd D Z CZ j)[r]? := by
  induction m with
  | zero => omega
  | succ m ih =>
    rw [tcells_succ]
    by_cases e : j < m
    · rw [List.getElem?_append_left (by rw [tcells_len]; omega), ih e]
    · have e2 : j = m := by omega
      subst e2
      rw [List.getElem?_append_right (by rw [tcells_len]; omega), tcells_len, show j * 4 + r - j * 4 = r from by omega]
theorem tcells_congr (c : CQ) (bd od cd : Nat) (D : Nat → Int) {Z Z' : Nat → Option Addr} {CZ CZ' : Nat → Nat} (m : Nat) (h1 : ∀ j, j < m → Z j = Z' j) (h2 : ∀ j, j < m → CZ j = CZ' j) : tcells c bd od cd D Z CZ m = tcells c bd od cd D Z' CZ' m := by
  induction m with
  | zero => rfl
  | succ m ih =>
    rw [tcells_succ, tcells_succ, ih (fun j hj => h1 j (by omega)) (fun j hj => h2 j (by omega))]
    unfold tvals
    rw [h1 m (by omega), h2 m (by omega)]
/-- n turns lie in block T. -/
structure TuRow (w : World) (T : Nat) (c : CQ) (bd od cd : Nat) (D : Nat → Int) (Z : Nat → Option Addr) (CZ : Nat → Nat) (n : Nat) : Prop where
  c0 : ∀ j, j < n → w.cell? ⟨T, j * 4, none⟩ = some (.int .i64 ((c.layers.length : Int) - 1 - (j : Int)))
  c1 : ∀ j, j < n → w.cell? ⟨T, j * 4 + 1, none⟩ = some (.slice (Z j) ((partsQ c).lg j) (CZ j))
  c2 : ∀ j, j < n → w.cell? ⟨T, j * 4 + 2, none⟩ = some (.slice (some ⟨bd, od + (partsQ c).at j, none⟩) (2 * (partsQ c).lg (j + 1)) (cd - (partsQ c).at j))
  c3 : ∀ j, j < n → w.cell? ⟨T, j * 4 + 3, none⟩ = some (.int .u64 ((partsQ c).tau D j))
  zrow : ∀ j, j < n → PRow w (Z j) ((partsQ c).lg j) (zQ (partsQ c) D j)
theorem TuRow.kept {w w' : World} {T : Nat} {c : CQ} {bd od cd : Nat} {D : Nat → Int} {Z : Nat → Option Addr} {CZ : Nat → Nat} {n : Nat} (h : TuRow w T c bd od cd D Z CZ n) (hb : Below w.heap.size w w') : TuRow w' T c bd od cd D Z CZ n :=
  ⟨fun j hj => (hb.cell (World.block_lt_of_cell? w _ (h.c0 j hj))).trans (h.c0 j hj), fun j hj => (hb.cell (World.block_lt_of_cell? w _ (h.c1 j hj))).trans (h.c1 j hj), fun j hj => (hb.cell (World.block_lt_of_cell? w _ (h.c2 j hj))).trans (h.c2 j hj), fun j hj => (hb.cell (World.block_lt_of_cell? w _ (h.c3 j hj))).trans (h.c3 j hj), fun j hj => (h.zrow j hj).kept hb⟩
theorem TuRow.of {w : World} {base T ct : Nat} {c : CQ} {bd od cd : Nat} {D : Nat → Int} {Z : Nat → Option Addr} {CZ : Nat → Nat} {n : Nat} {e : TypeId} (h : w.ownsRow base e 4 (.slice (some ⟨T, 0, none⟩) n ct) n (tcells c bd od cd D Z CZ n)) (hz : ∀ j, j < n → PRow w (Z j) ((partsQ c).lg j) (zQ (partsQ c) D j)) : TuRow w T c bd od cd D Z CZ n :=
  ⟨fun j hj => by have := h.cellAt (j * 4) (by omega); rw [this]; exact tcells_at c bd od cd D Z CZ n j 0 hj (by omega), fun j hj => by rw [h.cellAt (j * 4 + 1) (by omega)]; exact tcells_at c bd od cd D Z CZ n j 1 hj (by omega), fun j hj => by rw [h.cellAt (j * 4 + 2) (by omega)]; exact tcells_at c bd od cd D Z CZ n j 2 hj (by omega), fun j hj => by rw [h.cellAt (j * 4 + 3) (by omega)]; exact tcells_at c bd od cd D Z CZ n j 3 hj (by omega), hz⟩

/-- Cells of numbers don't lie in a box that holds a list. -/
theorem box_ne {W : World} {B b o : Nat} {t : TypeId} {a : Option Addr} {n c : Nat} {q : IntKind} {x : Int} (h : Boxed W B t (.slice a n c)) (hc : W.cell? ⟨b, o, none⟩ = some (.int q x)) : b ≠ B := by
  intro e
  subst e
  have h1 : W.heap[b]? = some (.cells #[.slice a n c] t (0, 0)) := h
  simp only [World.cell?, h1] at hc
  cases o with
  | zero => simp at hc
  | succ o => simp at hc
theorem box_set_cell {W : World} {B b o : Nat} {t : TypeId} {a : Option Addr} {n c : Nat} {q : IntKind} {x : Int} {v : Value} (h : Boxed W B t (.slice a n c)) (hc : W.cell? ⟨b, o, none⟩ = some (.int q x)) : (W.setCell ⟨B, 0, none⟩ v).cell? ⟨b, o, none⟩ = some (.int q x) :=
  (World.cell?_of_block (w := W) (a := ⟨b, o, none⟩) (Below.heap_setCell _ _ _ _ (box_ne h hc))).trans hc
/-- What holds while turns are gathered, k of them being there: the boxes of draws, logs, z and the list; the points so far. -/
structure TuI (c : CQ) (n bd od nd cd : Nat) (D : Nat → Int) (w : World) (X L cl Lb Zb Ab R0 : Nat) (k : Nat) (W : World) (Z : Nat → Option Addr) (CZ : Nat → Nat) (a : Option Addr) : Prop where
  bel : Below w.heap.size w W
  dbox : Boxed W (X + 1) 25 (.slice a (nd - (partsQ c).at k) (cd - (partsQ c).at k))
  deq : (partsQ c).at k < cd → a = some ⟨bd, od + (partsQ c).at k, none⟩
  lbox : Boxed W Lb 75 (.slice (some ⟨L, 0, none⟩) (n + 1) cl)
  lrow : IRow W L 0 (n + 1) (belowQ c)
  zbox : Boxed W Zb 25 (.slice (Z k) ((partsQ c).lg k) (CZ k))
  zrow : ∀ j, j ≤ k → PRow W (Z j) ((partsQ c).lg j) (zQ (partsQ c) D j)
  abox : Boxed W Ab 78 (.slice (some ⟨R0, 0, none⟩) k n)
  arow : W.ownsRow w.heap.size 81 4 (.slice (some ⟨R0, 0, none⟩) k n) k (tcells c bd od cd D Z CZ k)
  lfar : L ≠ R0
  big : Ab + 2 ≤ W.heap.size
  zfar : ∀ j, j ≤ k → ∀ x, Z j = some x → x.block ≠ R0
def TuIn (c : CQ) (n bd od nd cd : Nat) (D : Nat → Int) (w : World) (X L cl Lb Zb Ab R0 : Nat) (k : Nat) (W : World) : Prop := ∃ Z CZ a, TuI c n bd od nd cd D w X L cl Lb Zb Ab R0 k W Z CZ a
/-- It abides the turn of blocks that hold no cells. -/
theorem TuIn.own {c : CQ} {n bd od nd cd : Nat} {D : Nat → Int} {w : World} {X L cl Lb Zb Ab R0 B0 : Nat} (hB : w.heap.size ≤ B0) : OwnFrom B0 (TuIn c n bd od nd cd D w X L cl Lb Zb Ab R0) := by
  rintro k A B row ⟨Z, CZ, a, h⟩ hg hr
  have hr2 : ∀ r, row = some r → ∃ o : Obj, A.heap[r]? = some o ∧ o.isCells = false := fun r e => (hr r e).2
  have bx : ∀ {Bx t v}, Boxed A Bx t v → Boxed B Bx t v := fun {Bx t v} hb => hb.kept hg (fun e => by
    obtain ⟨o, ho, hc⟩ := hr2 Bx e.symm
    rw [show A.heap[Bx]? = _ from hb] at ho; cases ho; cases hc)
  refine ⟨Z, CZ, a, h.bel.grown hg h.bel.size (fun r e => Nat.le_trans hB (hr r e).1), bx h.dbox, h.deq, bx h.lbox, fun j hj => cell_kept (h.lrow j hj) hg hr2, bx h.zbox, fun j hj hn => ?_, bx h.abox, h.arow.kept hg ?_, h.lfar, Nat.le_trans h.big hg.size, h.zfar⟩
  · obtain ⟨b, o, e, hrow⟩ := h.zrow j hj hn
    exact ⟨b, o, e, fun i hi => cell_kept (hrow i hi) hg hr2⟩
  · rcases h.arow.2 with ⟨e, _⟩ | ⟨g, cap, cur, e, _, hgb, _⟩
    · cases e
    · refine .inr fun e' => ?_
      cases e
      obtain ⟨o, ho, hc⟩ := hr2 R0 (by simpa [Value.ownBlock] using e'.symm)
      rw [hgb] at ho; cases ho; cases hc
/-- New blocks change nothing of it. -/
theorem TuI.kept {c : CQ} {n bd od nd cd : Nat} {D : Nat → Int} {w : World} {X L cl Lb Zb Ab R0 k : Nat} {W W' : World} {Z : Nat → Option Addr} {CZ : Nat → Nat} {a : Option Addr} (h : TuI c n bd od nd cd D w X L cl Lb Zb Ab R0 k W Z CZ a) (hb : Below W.heap.size W W') : TuI c n bd od nd cd D w X L cl Lb Zb Ab R0 k W' Z CZ a := by
  have bx : ∀ {Bx t v}, Boxed W Bx t v → Boxed W' Bx t v := fun {Bx t v} hx => (hb.block Bx hx.lt).trans hx
  refine ⟨h.bel.trans (hb.mono h.bel.size), bx h.dbox, h.deq, bx h.lbox, h.lrow.kept hb, bx h.zbox, fun j hj => (h.zrow j hj).kept hb, bx h.abox, ⟨h.arow.1, ?_⟩, h.lfar, Nat.le_trans h.big hb.size, h.zfar⟩
  rcases h.arow.2 with ⟨e, _⟩ | ⟨g, cap, cur, e, hbs, hgb, r⟩
  · cases e
  · exact .inr ⟨g, cap, cur, e, hbs, (hb.block g (Array.getElem?_eq_some_iff.1 hgb).1).trans hgb, r⟩
/-- A turn is appended, and the list is stored. -/
theorem TuI.put {c : CQ} {n bd od nd cd : Nat} {D : Nat → Int} {w : World} {X L cl Lb Zb Ab R0 k : Nat} {W w6 : World} {Z : Nat → Option Addr} {CZ : Nat → Nat} {a : Option Addr} {o : Obj} (h : TuI c n bd od nd cd D w X L cl Lb Zb Ab R0 k W Z CZ a) (hA : w.heap.size ≤ Ab)
    (hown : w6.ownsRow w.heap.size 81 4 (.slice (some ⟨R0, 0, none⟩) (k + 1) n) (k + 1) (tcells c bd od cd D Z CZ k ++ tvals c bd od cd D Z CZ k)) (hg : (W.alloc o).grownBy w6 (some R0)) :
    (w6.cell? ⟨Ab, 0, none⟩ = some (.slice (some ⟨R0, 0, none⟩) k n) ∧ w6.frozen? ⟨Ab, 0, none⟩ = false) ∧
    Below w.heap.size w (w6.setCell ⟨Ab, 0, none⟩ (.slice (some ⟨R0, 0, none⟩) (k + 1) n)) ∧
    Boxed (w6.setCell ⟨Ab, 0, none⟩ (.slice (some ⟨R0, 0, none⟩) (k + 1) n)) (X + 1) 25 (.slice a (nd - (partsQ c).at k) (cd - (partsQ c).at k)) ∧
    Boxed (w6.setCell ⟨Ab, 0, none⟩ (.slice (some ⟨R0, 0, none⟩) (k + 1) n)) Lb 75 (.slice (some ⟨L, 0, none⟩) (n + 1) cl) ∧
    IRow (w6.setCell ⟨Ab, 0, none⟩ (.slice (some ⟨R0, 0, none⟩) (k + 1) n)) L 0 (n + 1) (belowQ c) ∧
    Boxed (w6.setCell ⟨Ab, 0, none⟩ (.slice (some ⟨R0, 0, none⟩) (k + 1) n)) Zb 25 (.slice (Z k) ((partsQ c).lg k) (CZ k)) ∧
    (∀ j, j ≤ k → PRow (w6.setCell ⟨Ab, 0, none⟩ (.slice (some ⟨R0, 0, none⟩) (k + 1) n)) (Z j) ((partsQ c).lg j) (zQ (partsQ c) D j)) ∧
    Boxed (w6.setCell ⟨Ab, 0, none⟩ (.slice (some ⟨R0, 0, none⟩) (k + 1) n)) Ab 78 (.slice (some ⟨R0, 0, none⟩) (k + 1) n) ∧
    (w6.setCell ⟨Ab, 0, none⟩ (.slice (some ⟨R0, 0, none⟩) (k + 1) n)).ownsRow w.heap.size 81 4 (.slice (some ⟨R0, 0, none⟩) (k + 1) n) (k + 1) (tcells c bd od cd D Z CZ (k + 1)) := by
  have hR : ∀ {Bx t v}, Boxed W Bx t v → t ≠ 81 → Bx ≠ R0 := fun {Bx t v} hx ht e => hx.not_row ht h.arow (by rw [e]; rfl)
  have bx6 : ∀ {Bx t v}, Boxed W Bx t v → t ≠ 81 → Boxed w6 Bx t v := fun {Bx t v} hx ht => (hx.alloc o).kept hg (fun e => hR hx ht (by cases e; rfl))
  have a6 := bx6 h.abox (by decide)
  have hRs : w.heap.size ≤ R0 := ((h.arow.lt) R0 rfl).1
  have b6 : Below w.heap.size w w6 := (h.bel.alloc h.bel.size o).grown hg (by have := h.bel.size; simp; omega) (fun j e => by cases e; exact hRs)
  have c6 : ∀ {q : IntKind} {x : Int} (p : Addr), p.block ≠ R0 → W.cell? p = some (.int q x) → w6.cell? p = some (.int q x) := fun {q x} p hp hc => by
    have h1 : (W.alloc o).cell? p = some (.int q x) := by rw [World.cell?_alloc_old _ _ _ (Nat.ne_of_lt (World.block_lt_of_cell? W _ hc))]; exact hc
    exact hg.cell h1 (fun e => hp (by cases e; rfl))
  have ne : ∀ {Bx t v}, Boxed W Bx t v → t ≠ 78 → Bx ≠ Ab := fun {Bx t v} hx ht e => by
    subst e
    have := (show W.heap[Bx]? = _ from hx).symm.trans h.abox
    simp at this
    exact ht this.2
  have st : ∀ {Bx t v}, Boxed W Bx t v → t ≠ 81 → t ≠ 78 → Boxed (w6.setCell ⟨Ab, 0, none⟩ (.slice (some ⟨R0, 0, none⟩) (k + 1) n)) Bx t v := fun {Bx t v} hx h1 h2 => (Below.heap_setCell _ _ _ _ (ne hx h2)).trans (bx6 hx h1)
  refine ⟨⟨a6.cell, a6.frozen⟩, b6.setCell (p := ⟨Ab, 0, none⟩) hA _, st h.dbox (by decide) (by decide), st h.lbox (by decide) (by decide), fun j hj => box_set_cell a6 (c6 ⟨L, 0 + j, none⟩ h.lfar (h.lrow j hj)), st h.zbox (by decide) (by decide), fun j hj hn => ?_, a6.set _, ?_⟩
  · obtain ⟨b, off, e, hrow⟩ := h.zrow j hj hn
    exact ⟨b, off, e, fun i hi => box_set_cell a6 (c6 ⟨b, off + i, none⟩ (show b ≠ R0 from h.zfar j hj _ e) (hrow i hi))⟩
  · rw [tcells_succ]
    exact hown.kept (grownBy_setCell' w6 Ab _) (.inr (fun e => hR h.abox (by decide) (by cases e; rfl)))
/-- The next point is stored, and the draws that are left. -/
theorem TuI.next {c : CQ} {n bd od nd cd : Nat} {D : Nat → Int} {w : World} {X L cl Y k : Nat} {w5 w7 : World} {Z : Nat → Option Addr} {CZ : Nat → Nat} {at' bk k2 rd rc B lk : Nat} {tau : Int} {dv : Value}
    (hput : Below w.heap.size w w5 ∧
      Boxed w5 (X + 1) 25 dv ∧
      Boxed w5 Y 75 (.slice (some ⟨L, 0, none⟩) (n + 1) cl) ∧
      IRow w5 L 0 (n + 1) (belowQ c) ∧
      Boxed w5 (Y + 1) 25 (.slice (Z k) ((partsQ c).lg k) (CZ k)) ∧
      (∀ j, j ≤ k → PRow w5 (Z j) ((partsQ c).lg j) (zQ (partsQ c) D j)) ∧
      Boxed w5 (Y + 1 + 1 + 1) 78 (.slice (some ⟨Y + 1 + 1, 0, none⟩) (k + 1) n) ∧
      w5.ownsRow w.heap.size 81 4 (.slice (some ⟨Y + 1 + 1, 0, none⟩) (k + 1) n) (k + 1) (tcells c bd od cd D Z CZ (k + 1)))
    (hat : (partsQ c).at k = at') (hlk : (partsQ c).lg (k + 1) = bk) (hk2 : 2 * bk = k2) (hrd : nd - at' = rd) (hrc : cd - at' = rc) (htau : D (at' + 2 * bk) = tau) (hX : w.heap.size = X) (hXY : X + 1 < Y)
    (hdv : ∃ a m q, dv = .slice a m q) (hbig : Y + 1 + 1 + 1 + 2 ≤ w5.heap.size) (hL : L ≠ Y + 1 + 1) (hzf : ∀ j, j ≤ k → ∀ x, Z j = some x → x.block ≠ Y + 1 + 1)
    (hB : w5.heap.size ≤ B) (hrow : Row w7 B 0 bk (linQ (fun j => D (at' + j)) (fun j => D (at' + (bk + j))) tau)) (hb7 : Below w5.heap.size w5 w7) :
    TuIn c n bd od nd cd D w X L cl Y (Y + 1) (Y + 1 + 1 + 1) (Y + 1 + 1) (k + 1) ((w7.setCell ⟨Y + 1, 0, none⟩ (.slice (some ⟨B, 0, none⟩) bk bk)).setCell ⟨X + 1, 0, none⟩ (.slice (if rc = k2 + 1 then some ⟨bd, od + at', none⟩ else some ⟨bd, od + at' + (k2 + 1), none⟩) (rd - (k2 + 1)) (rc - (k2 + 1)))) := by
  obtain ⟨p1, p2, p3, p4, p5, p6, p7, p8⟩ := hput
  obtain ⟨da, dm, dq, rfl⟩ := hdv
  have bx : ∀ {Bx t v}, Boxed w5 Bx t v → Boxed w7 Bx t v := fun {Bx t v} hx => (hb7.block Bx hx.lt).trans hx
  have q5 := bx p5
  obtain ⟨w8, hw8⟩ : ∃ x, w7.setCell ⟨Y + 1, 0, none⟩ (.slice (some ⟨B, 0, none⟩) bk bk) = x := ⟨_, rfl⟩
  have st8 : ∀ {Bx t v}, Boxed w7 Bx t v → Bx ≠ Y + 1 → Boxed w8 Bx t v := fun {Bx t v} hx hne => by rw [← hw8]; exact (Below.heap_setCell _ _ _ _ hne).trans hx
  have z8 : Boxed w8 (Y + 1) 25 (.slice (some ⟨B, 0, none⟩) bk bk) := by rw [← hw8]; exact q5.set _
  have d8 : Boxed w8 (X + 1) 25 (.slice da dm dq) := st8 (bx p2) (by omega)
  have c8 : ∀ {b o : Nat} {q : IntKind} {x : Int}, w7.cell? ⟨b, o, none⟩ = some (.int q x) → w8.cell? ⟨b, o, none⟩ = some (.int q x) := fun {b o q x} h => by rw [← hw8]; exact box_set_cell q5 h
  have hs8 : w8.heap.size = w7.heap.size := by rw [← hw8, World.size_setCell]
  have b8 : Below w.heap.size w w8 := by rw [← hw8]; exact (p1.trans (hb7.mono p1.size)).setCell (p := ⟨Y + 1, 0, none⟩) (by show w.heap.size ≤ Y + 1; omega) _
  rw [hw8]
  have hnx : (partsQ c).at (k + 1) = at' + k2 + 1 := by
    show (partsQ c).at k + 2 * (partsQ c).lg (k + 1) + 1 = _
    rw [hat, hlk, hk2]
  have st9 : ∀ {Bx t v} (u : Value), Boxed w8 Bx t v → Bx ≠ X + 1 → Boxed (w8.setCell ⟨X + 1, 0, none⟩ u) Bx t v := fun {Bx t v} u hx hne => (Below.heap_setCell _ _ _ _ hne).trans hx
  have R : ∀ {ao m f} (u : Value), PRow w7 ao m f → PRow (w8.setCell ⟨X + 1, 0, none⟩ u) ao m f := fun {ao m f} u hp hm => by
    obtain ⟨b, o, e, hr⟩ := hp hm
    exact ⟨b, o, e, fun i hi => box_set_cell d8 (c8 (hr i hi))⟩
  refine ⟨fun j => if j = k + 1 then some ⟨B, 0, none⟩ else Z j, fun j => if j = k + 1 then bk else CZ j, if rc = k2 + 1 then some ⟨bd, od + at', none⟩ else some ⟨bd, od + at' + (k2 + 1), none⟩, b8.setCell (p := ⟨X + 1, 0, none⟩) (by show w.heap.size ≤ X + 1; omega) _, ?_, ?_, st9 _ (st8 (bx p3) (by omega)) (by omega), fun j hj => box_set_cell d8 (c8 ((p4.kept hb7) j hj)), ?_, ?_, st9 _ (st8 (bx p7) (by omega)) (by omega), ?_, hL, ?_, ?_⟩
  · rw [hnx, show nd - (at' + k2 + 1) = rd - (k2 + 1) from by omega, show cd - (at' + k2 + 1) = rc - (k2 + 1) from by omega]
    exact d8.set _
  · intro h
    rw [hnx] at h ⊢
    rw [if_neg (by omega), show od + (at' + k2 + 1) = od + at' + (k2 + 1) from by omega]
  · rw [if_pos rfl, if_pos rfl, hlk]
    exact st9 _ z8 (by omega)
  · intro j hj
    by_cases e : j = k + 1
    · subst e
      rw [if_pos rfl, hlk]
      refine R _ ((PRow.of hrow).congr fun i _ => ?_)
      show _ = linQ (fun i => D ((partsQ c).at k + i)) (fun i => D ((partsQ c).at k + (partsQ c).lg (k + 1) + i)) ((partsQ c).tau D k) i
      unfold linQ Parts.tau
      dsimp only
      rw [hat, hlk, htau, Nat.add_assoc]
    · rw [if_neg e]
      exact R _ ((p6 j (by omega)).kept hb7)
  · have e1 : tcells c bd od cd D (fun j => if j = k + 1 then some ⟨B, 0, none⟩ else Z j) (fun j => if j = k + 1 then bk else CZ j) (k + 1) = tcells c bd od cd D Z CZ (k + 1) := tcells_congr c bd od cd D (k + 1) (fun j hj => if_neg (by omega)) (fun j hj => if_neg (by omega))
    rw [e1]
    refine ⟨p8.1, ?_⟩
    rcases p8.2 with ⟨e, _⟩ | ⟨g, cap, cur, e, hbs, hgb, r⟩
    · cases e
    · refine .inr ⟨g, cap, cur, e, hbs, ?_, r⟩
      have hg : g = Y + 1 + 1 := by cases e; rfl
      rw [Below.heap_setCell _ _ _ _ (show g ≠ X + 1 by omega), ← hw8, Below.heap_setCell _ _ _ _ (show g ≠ Y + 1 by omega)]
      exact (hb7.block g (Array.getElem?_eq_some_iff.1 hgb).1).trans hgb
  · rw [World.size_setCell, hs8]; exact Nat.le_trans hbig hb7.size
  · intro j hj x hx
    by_cases e : j = k + 1
    · rw [if_pos e] at hx
      cases hx
      show B ≠ Y + 1 + 1
      omega
    · rw [if_neg e] at hx
      exact hzf j (by omega) x hx

end Go.Proofs.YtkhacijkfjcdeaaDoor

/-
  A region that draws its order, in a round of a loop over a function: what holds of it outside a round holds in it, where none of its operations defers. Of every program; nothing of this one in it.
-/
namespace Go.Proofs.YtkhacijkfjcdeaaDoor
open Go.RowKit
set_option linter.unusedVariables false

/-- None of the operations defers. -/
def plainB (ops : Array Oper) : Bool := ops.all fun o => match o.op with | .defer _ => false | _ => true
theorem plainB_at {ops : Array Oper} (h : plainB ops = true) {i : Nat} {o : Oper} (ho : ops[i]? = some o) : ∀ c, o.op ≠ .defer c := by
  intro c e
  obtain ⟨hi, ho2⟩ := Array.getElem?_eq_some_iff.1 ho
  have := Array.all_eq_true.1 h i hi
  rw [ho2] at this
  simp only [e] at this
  cases this
theorem oper_round {P : Program} {o : Oper} {a : Act} {w : World} {K : Act → World → Prop} {Q : Exit → Act → World → Prop} (l n : Nat) (hd : ∀ c, o.op ≠ .defer c) (h : o.wp P a w K Q) : o.wpIn (Fence.wide.inRound l) n P a w K Q := by
  unfold Oper.wp at h
  unfold Oper.wpIn
  refine ⟨fun _ _ => trivial, ?_⟩
  rw [Oper.semAt_plain (Fence.wide.inRound l) _ _ hd]
  generalize (execOp a.eval o).run P w = r at h ⊢
  cases r with
  | ok x w' =>
    cases x with
    | enter f args => exact ⟨fun e => (by cases e), CallsIn.inRound l (callsIn_wide.2 h)⟩
    | row row args => exact ⟨fun e => (by cases e), fun c cs _ => let ⟨v, w', r, s⟩ := h c cs; ⟨v, w', r, stepsIn_wide.2 s⟩⟩
    | round l' f tmps assign body => exact h.elim
    | _ => exact h
  | halt x w' => cases x <;> exact h
theorem op_round {P : Program} {ops : Array Oper} {Q : Exit → Act → World → Prop} (l n : Nat) (hp : plainB ops = true) (hQ : ¬ LetsOut Q) {i : Nat} {a : Act} {w : World} {K K' : Act → World → Prop} (hK : ∀ a w, K a w → K' a w) (h : wpOp P ops Q i K a w) : wpOpIn (Fence.wide.inRound l) n P ops Q i K' a w := by
  unfold wpOp at h
  unfold wpOpIn
  cases ho : ops[i]? with
  | none => rw [ho] at h; exact hK _ _ h
  | some o =>
    rw [ho] at h
    dsimp only at h ⊢
    by_cases hw : Region.wanted o (yielded ops a.tmps) = true
    · rw [if_pos hw] at h ⊢
      rcases h with h | h
      · exact Oper.wpIn_mono hK (oper_round l n (plainB_at hp ho) h)
      · exact absurd h.2 hQ
    · rw [if_neg hw] at h ⊢
      exact ⟨fun _ _ => trivial, hK _ _ h⟩
theorem any_round {P : Program} {md : Region.Mode} {ops : Array Oper} {Q : Exit → Act → World → Prop} (l n : Nat) (hp : plainB ops = true) (hQ : ¬ LetsOut Q) : ∀ (fuel : Nat) (listed : Array Bool) (a : Act) (w : World), wpAny P md ops Q fuel listed a w → wpAnyIn (Fence.wide.inRound l) n P md ops Q fuel listed a w := by
  intro fuel
  induction fuel with
  | zero => exact fun listed a w h => h
  | succ fuel ih => exact fun listed a w h => ⟨h.1, fun i hi => op_round l n hp hQ (fun a w h => ih _ a w h) (h.2 i hi)⟩
theorem held_round {P : Program} {id l n : Nat} {ops : Array Oper} {Q : Exit → Act → World → Prop} {a : Act} {w : World} (S : World → Prop) (hm : P.follows .mixedOrders = true) (hp : plainB ops = true) (hQ : ¬ LetsOut Q) (hS : S w.drew) (h : S w.drew → wpAnyH P .any ops Q S ops.size (Array.replicate ops.size false) a w.drew) : (Code.region id ops true).wpIn (Fence.wide.inRound l) n P Q a w :=
  wpIn_region_any hm (any_round l n hp hQ _ _ _ _ (wpAny_of_held _ _ _ _ (h hS)))
theorem mid_no (A : Act) (W : World) : ¬ LetsOut (midPost A W) := fun ⟨_, _, h⟩ => h
theorem mid_round {P : Program} {id l n : Nat} {ops : Array Oper} {Q : Exit → Act → World → Prop} {a A : Act} {w W : World} (S : World → Prop) (hm : P.follows .mixedOrders = true) (hp : plainB ops = true) (hS : S w.drew) (h : S w.drew → wpAnyH P .any ops (midPost A W) S ops.size (Array.replicate ops.size false) a w.drew) (hQ : Q .normal A W) : (Code.region id ops true).wpIn (Fence.wide.inRound l) n P Q a w :=
  mid_in (held_round S hm hp (mid_no A W) hS h) hQ

end Go.Proofs.YtkhacijkfjcdeaaDoor
