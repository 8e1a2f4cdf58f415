/-
  Several texts in one: CircF, Tiny, Gkl1, Equal, TopT, Opt1; each opens with what it holds.
-/
import Derived.Test.YtbchbmelofojkaaGreatDoorCirc
import Derived.Test.YtbchbmelofojkaaGreatDoorCircC
import Derived.Test.YtbchbmelofojkaaGreatDoorMGkB
import Derived.Test.YtbchbmelofojkaaGreatDoorMRef
import Derived.Test.YtbchbmelofojkaaGreatDoorKeep
import Derived.Deep.RegionHeld3
import Derived.Test.YtbchbmelofojkaaGreatDoorOwn
import Derived.Deep.RegionWith
import Derived.Deep.LoopGhost
import Derived.Deep.Light
import Derived.Deep.DrawnRows
import Derived.Test.YtbchbmelofojkaaGreatDoorMFiat
import Derived.Test.YtbchbmelofojkaaGreatDoorMOpB
/-
  Plain: of a right circuit all numbers are small; the law's own tiny circuit; no program in it.
-/
namespace Go.Proofs.YtbchbmelofojkaaGreatDoor
set_option linter.unusedVariables false

theorem pow_le16 {k : Int} (h : k ≤ 4) : 2 ^ k.toNat ≤ 16 := Nat.le_trans (Nat.pow_le_pow_right (by omega) (show k.toNat ≤ 4 by omega)) (Nat.le_refl 16)
theorem layersR_small : ∀ (ls : List LQ) (k : Int), k ≤ 4 → layersR k ls → ∀ l ∈ ls, (0 ≤ l.log ∧ l.log ≤ 4) ∧ l.gates.length ≤ 16 ∧ ∀ q ∈ l.gates, (0 ≤ q.a ∧ q.a < 100) ∧ 0 ≤ q.b ∧ q.b < 100
  | [], _, _, _ => by simp
  | x :: r, k, hk, h => by
    intro l hl
    obtain ⟨⟨hx1, hx2, hx3⟩, hr⟩ := h
    rcases List.mem_cons.1 hl with rfl | hl
    · refine ⟨hx1, by rw [hx2]; exact pow_le16 hx1.2, fun q hq => ?_⟩
      obtain ⟨⟨a0, a1⟩, b0, b1⟩ := hx3 q hq
      have := pow_le16 hk
      exact ⟨⟨a0, by omega⟩, b0, by omega⟩
    · exact layersR_small r x.log hx1.2 hr l hl
theorem right_small {c : CQ} (h : c.right) : ∀ l ∈ c.layers, (0 ≤ l.log ∧ l.log ≤ 4) ∧ l.gates.length ≤ 16 ∧ ∀ q ∈ l.gates, (0 ≤ q.a ∧ q.a < 100) ∧ 0 ≤ q.b ∧ q.b < 100 := layersR_small _ _ h.log.2 h.each
theorem right_fits {c : CQ} (h : c.right) : c.fits := by
  have hs := right_small h
  have hl := h.log
  intro x hx
  rcases List.mem_cons.1 hx with rfl | hx
  · show 0 ≤ c.log ∧ c.log < 100
    omega
  · obtain ⟨l, hl1, hl2⟩ := List.mem_flatMap.1 hx
    obtain ⟨h1, h2, h3⟩ := hs l hl1
    rcases List.mem_cons.1 hl2 with rfl | hl2
    · show 0 ≤ l.log ∧ l.log < 100
      omega
    · obtain ⟨q, hq, rfl⟩ := List.mem_map.1 hl2
      exact h3 q hq
def tinyQ : CQ := ⟨1, [⟨1, [⟨true, 0, 1⟩, ⟨false, 0, 1⟩]⟩]⟩
theorem tiny_right : tinyQ.right := by
  refine ⟨by decide, by decide, by decide, ⟨by decide, by decide, ?_⟩, trivial⟩
  intro q hq
  simp at hq
  rcases hq with rfl | rfl <;> exact ⟨by decide, by decide⟩

end Go.Proofs.YtbchbmelofojkaaGreatDoor

/-
  A contract of the laws' own tiny circuit; what it makes is new.
-/
namespace Go.Proofs.YtbchbmelofojkaaGreatDoor
open Go.RowKit
set_option linter.unusedVariables false
attribute [local go_sem ↓] Go.wp_at_zero Go.wp_at_succ

theorem results_cell1 {fn : Func} {p : Tmp} {ty : TypeId} (h : fn.results = #[.cell p ty]) (tmps : Array Value) (P : Program) (w : World) :
    (results fn tmps).run P w = ((asAddr (tmps.getD p undef)).run P w).andThen fun a w₁ => (loadVar ty a).run P w₁ := by
  simp only [results, h]
  simp [Sem.run_bind, Result.andThen]
theorem load_circ1 {w : World} {b : Nat} {x0 x1 : Value} (c0 : w.cell? ⟨b, 0, none⟩ = some x0) (c1 : w.cell? ⟨b, 1, none⟩ = some x1) : (loadVar 25 ⟨b, 0, none⟩).run Tryz.prog w = .ok (.agg #[x0, x1]) w := by
  go_simp
theorem results_circ1 {fn : Func} {p : Tmp} (h : fn.results = #[.cell p 25]) {tmps : Array Value} {w : World} {b : Nat} {x0 x1 : Value} (hp : tmps.getD p undef = .pointer (some ⟨b, 0, none⟩)) (c0 : w.cell? ⟨b, 0, none⟩ = some x0) (c1 : w.cell? ⟨b, 1, none⟩ = some x1) :
    (results fn tmps).run Tryz.prog w = .ok (.agg #[x0, x1]) w := by
  rw [results_cell1 h, hp]
  simp [asAddr, Result.andThen, load_circ1 c0 c1]
set_option maxHeartbeats 1000000 in
set_option maxRecDepth 100000 in
theorem tiny_any (w : World) :
    Calls Tryz.prog 37 #[] w fun e w' => ∃ (b : Nat) (A : Nat → Option Addr) (C : Nat → Nat), e = .returned (.agg #[.int .i64 1, .slice (some ⟨b, 0, none⟩) 1 1]) ∧ CRow w' (some ⟨b, 0, none⟩) tinyQ.layers A C ∧ Below w.heap.size w w' := by
  go_enter Tryz.func37, Tryz.ntmps37
  go_wp2_with fail
  refine bodyPost_ret (results_circ1 rfl rfl (by rw [World.cell?_alloc_old _ _ _ (by simp <;> omega), World.cell?_alloc_old _ _ _ (by simp <;> omega), World.cell?_alloc_new]; rfl) (by rw [World.cell?_alloc_old _ _ _ (by simp <;> omega), World.cell?_alloc_old _ _ _ (by simp <;> omega), World.cell?_alloc_new]; rfl)) rfl ?_
  refine ⟨w.heap.size + 1 + 1, fun _ => some ⟨w.heap.size + 1, 0, none⟩, fun _ => 2, rfl, ?_, (((Below.refl w.heap.size w).alloc (Nat.le_refl _) _).alloc (by simp) _).alloc (by simp; omega) _⟩
  generalize hO1 : Obj.cells #[Value.int .i64 1, .slice (some ⟨w.heap.size + 1 + 1, 0, none⟩) 1 1] 25 = o1
  have s1 : (w.alloc o1).heap.size = w.heap.size + 1 := by simp
  generalize w.alloc o1 = w1 at s1 ⊢
  generalize hO2 : Obj.cells #[Value.bool true, .int .i64 0, .int .i64 1, .bool false, .int .i64 0, .int .i64 1] 100 = o2
  have s2 : (w1.alloc o2).heap.size = w.heap.size + 1 + 1 := by simp [s1]
  have g : ∀ j, (w1.alloc o2).cell? ⟨w.heap.size + 1, j, none⟩ = (#[Value.bool true, .int .i64 0, .int .i64 1, .bool false, .int .i64 0, .int .i64 1] : Array Value)[j]? := fun j => by
    rw [← hO2, ← s1, World.cell?_alloc_new]
  generalize w1.alloc o2 = w2 at s2 g ⊢
  have hl : ∀ j, (w2.alloc (Obj.cells #[Value.int .i64 1, .slice (some ⟨w.heap.size + 1, 0, none⟩) 2 2] 96)).cell? ⟨w.heap.size + 1 + 1, j, none⟩ = (#[Value.int .i64 1, .slice (some ⟨w.heap.size + 1, 0, none⟩) 2 2] : Array Value)[j]? := fun j => by
    rw [← s2, World.cell?_alloc_new]
  have g' : ∀ j o, (w2.alloc o).cell? ⟨w.heap.size + 1, j, none⟩ = (#[Value.bool true, .int .i64 0, .int .i64 1, .bool false, .int .i64 0, .int .i64 1] : Array Value)[j]? := fun j o => by
    rw [World.cell?_alloc_old _ _ _ (by show w.heap.size + 1 ≠ w2.heap.size; omega)]; exact g j
  intro _
  refine ⟨_, _, rfl, fun i l hi => ?_⟩
  match i, hi with
  | 0, hi =>
    obtain rfl : (⟨1, [⟨true, 0, 1⟩, ⟨false, 0, 1⟩]⟩ : LQ) = l := by simpa [tinyQ] using hi
    refine ⟨(hl 0).trans rfl, (hl 1).trans rfl, fun _ => ⟨_, _, rfl, fun j q hq => ?_⟩, Nat.le_refl 2⟩
    match j, hq with
    | 0, hq =>
      obtain rfl : (⟨true, 0, 1⟩ : GQ) = q := by simpa using hq
      exact ⟨(g' 0 _).trans rfl, (g' 1 _).trans rfl, (g' 2 _).trans rfl⟩
    | 1, hq =>
      obtain rfl : (⟨false, 0, 1⟩ : GQ) = q := by simpa using hq
      exact ⟨(g' 3 _).trans rfl, (g' 4 _).trans rfl, (g' 5 _).trans rfl⟩
    | j + 2, hq => simp at hq
  | i + 1, hi => simp [tinyQ] at hi

end Go.Proofs.YtbchbmelofojkaaGreatDoor

/-
  The right proof holds for just the outputs that have the circuit's value at the point that was drawn; contracts of the laws' own small and held.
-/
namespace Go.Proofs.YtbchbmelofojkaaGreatDoor
open Go.RowKit
set_option linter.unusedVariables false
attribute [local go_sem ↓] Go.wp_at_zero Go.wp_at_succ

theorem right_iff {c : CQ} (hc : c.right) (f D fo : Nat → Int) :
    (partsQ c).holds D (rightP c f D).told (ofK (evS (fun j => kk (fo j)) (fun j => kk (D j)) ((partsQ c).lg 0))) (fun j => kk (f j)) ↔ evS (fun j => kk (fo j)) (fun j => kk (D j)) ((partsQ c).lg 0) = evS (fun j => kk (valsQ c f c.layers.length j)) (fun j => kk (D j)) ((partsQ c).lg 0) := by
  have n1 : 0 < (partsQ c).n := List.length_pos_iff.2 hc.some
  rw [rightP_told, Parts.right_holds (partsQ c) D _ _ (parts_fits hc) (parts_run hc f) (fun j => by have := parts_lg hc j; omega) n1]
  have h1 : (partsQ c).tru (valsK c f) D 0 = evS (fun j => kk (valsQ c f c.layers.length j)) (fun j => kk (D j)) ((partsQ c).lg 0) := rfl
  have h2 : (partsQ c).tru (valsK c f) D (partsQ c).n = evS (fun j => kk (f j)) ((partsQ c).z D (partsQ c).n) ((partsQ c).lg (partsQ c).n) := by
    refine evS_congr _ (fun b _ => ?_) (fun _ _ => rfl)
    show kk (valsQ c f (c.layers.length - c.layers.length) b) = _
    rw [Nat.sub_self]
    show kk (nrm (f b)) = kk (f b)
    exact kk_nrm _
  rw [h1, h2]
  constructor
  · rintro ⟨h, _⟩
    have := congrArg kk h
    rwa [kk_ofK, kk_ofK] at this
  · intro h
    exact ⟨by rw [h], rfl⟩
/-- A list of two numbers. -/
def pr (a b : Int) (j : Nat) : Int := if j = 0 then a else b
theorem Nums_pr {a b : Int} (h0 : 0 ≤ a) (h1 : a ≤ 18446744073709551615) (h2 : 0 ≤ b) (h3 : b ≤ 18446744073709551615) : Nums (pr a b) := fun j => by
  unfold pr
  split <;> omega
def dr4 (j : Nat) : Int := if j = 0 then 5 else if j = 1 then 6 else if j = 2 then 7 else 8
theorem Nums_dr4 : Nums dr4 := fun j => by
  unfold dr4
  repeat' split
  all_goals omega
theorem tiny_need : needQ tinyQ = 4 := by decide
theorem tiny_lg : (partsQ tinyQ).lg 0 = 1 := by decide
theorem tiny_ends : endsQ tinyQ 2 2 := by unfold endsQ; decide
theorem ev_one (f g : Nat → K) : evS f g 1 = f 0 + g 0 * (f 1 - f 0) := by
  rw [show (1 : Nat) = 0 + 1 from rfl, evS_fold, evS_zero]; rfl
theorem tiny_yes : (partsQ tinyQ).holds dr4 (rightP tinyQ (pr 3 4) dr4).told (ofK (evS (fun j => kk (pr 12 7 j)) (fun j => kk (dr4 j)) ((partsQ tinyQ).lg 0))) (fun j => kk (pr 3 4 j)) := by
  rw [right_iff tiny_right, tiny_lg, ev_one, ev_one]
  kernel_rfl
theorem tiny_no : ¬ (partsQ tinyQ).holds dr4 (rightP tinyQ (pr 3 4) dr4).told (ofK (evS (fun j => kk (pr 12 8 j)) (fun j => kk (dr4 j)) ((partsQ tinyQ).lg 0))) (fun j => kk (pr 3 4 j)) := by
  rw [right_iff tiny_right, tiny_lg, ev_one, ev_one]
  intro h
  have h2 := congrArg Fin.val h
  revert h2
  decide
set_option maxHeartbeats 2000000 in
set_option maxRecDepth 100000 in
theorem small_any (c : CQ) (g : Int) (ao : Option Addr) (n cap : Nat) (A : Nat → Option Addr) (C : Nat → Nat) (w : World) (hn63 : n ≤ maxLen) (hg : c.log = g) (hn : c.layers.length = n) (hr : CRow w ao c.layers A C) :
    Calls Tryz.prog 22 #[.agg #[.int .i64 g, .slice ao n cap]] w fun e w' => ∃ r : Bool, e = .returned (.bool r) ∧ (r = true → c.right) ∧ Below w.heap.size w w' := by
  have HS0 := hid (StW.start w g (.slice ao n cap) 25)
  have HC := hid (fun W (h : Below w.heap.size w W) => rcirc_any c g ao n cap A C W hg hn (hr.kept h))
  have HR := hid hr
  have HN := hid hn
  have n63 : (n : Int) ≤ 9223372036854775807 := by have : maxLen ≤ 9223372036854775807 := by decide
                                                   omega
  clear hg hn hr hn63
  go_enter Tryz.func22, Tryz.ntmps22
  go_wp2_with fail
  obtain ⟨B, hB⟩ : ∃ B, w.heap.size = B := ⟨_, rfl⟩
  rw [hB] at HS0
  rw [hB]
  clear hB
  generalize w.alloc (.cells #[.int .i64 g, .slice ao n cap] 25) = W1 at HS0 ⊢
  go_loopg [8] n (fun q i wr => ∃ t : Nat, t ≤ n ∧ q = n - t ∧ i = .int .i64 (t : Int) ∧ Hid (StW w wr B g (.slice ao n cap)))
  case atStart => exact ⟨0, by omega, rfl, rfl, HS0⟩
  case round =>
    clear HS0
    obtain ⟨t, htn, rfl, rfl, HS⟩ := hrel
    by_cases htl : t < n
    · obtain ⟨l, hl⟩ : ∃ l, c.layers[t]? = some l := ⟨c.layers[t]'(by rw [HN.out]; exact htl), by simp⟩
      obtain ⟨b, off, rfl, hcc⟩ := HR.out.kept HS.out.bel (by intro e; have := HN.out; rw [e] at this; simp at this; omega)
      obtain ⟨x0, x1, _, _⟩ := hcc t l hl
      rw [Nat.mul_comm 2 t] at x0 x1
      obtain ⟨lg, hlg⟩ : ∃ x, l.log = x := ⟨_, rfl⟩
      rw [hlg] at x0
      have t0 : (0 : Int) ≤ (t : Int) := by omega
      have t1 : (t : Int) < (n : Int) := by omega
      have HAL := hid (fun v => HS.out.next ((Below.refl wr.heap.size wr).alloc (Nat.le_refl _) (.cells #[.int .i64 lg, v] 96)))
      clear hcc hl hlg
      by_cases h2 : (2 : Int) < lg
      · go_wp2_with fail
        go_ret
        exact ⟨false, rfl, fun h => absurd h Bool.false_ne_true, (HAL.out _).bel⟩
      · go_wp2_with fail
        go_roundg (n - (t + 1))
        case measure => go_light; omega
        case rel => exact ⟨t + 1, by omega, rfl, by go_num, hid (HAL.out _)⟩
    · have t1 : ¬ ((t : Int) < (n : Int)) := by omega
      obtain ⟨z0, z1, zl⟩ := HS.out.box
      go_wp2_with fail
      refine (HC.out _ HS.out.bel).mono ?_
      rintro e w1 ⟨y, rfl, hy, hb⟩
      have HS1 := hid (HS.out.next hb)
      have HY := hid hy
      clear hb hy z0 z1 zl HS
      obtain ⟨z0, z1, zl⟩ := HS1.out.box
      by_cases hy0 : y = 0
      · subst hy0
        have HRT := hid (checkE_zero.1 HY.out)
        go_wp2_with fail
        go_ret
        exact ⟨_, rfl, fun _ => HRT.out, HS1.out.bel⟩
      · have e1 : (y == 0) = false := beq_eq_false_iff_ne.2 hy0
        go_wp2_with fail
        go_ret
        exact ⟨false, rfl, fun h => absurd h Bool.false_ne_true, HS1.out.bel⟩
/-- Below a world that grew, step by step. -/
theorem bel_alloc {X Y : World} (o : Obj) (h : Below X.heap.size X Y) : Below X.heap.size X (Y.alloc o) := h.alloc h.size o
theorem bel_trans {X Y Z : World} (hz : Below Y.heap.size Y Z) (h : Below X.heap.size X Y) : Below X.heap.size X Z := h.trans (hz.mono h.size)
theorem bel_drew {X Y : World} (h : Below X.heap.size X Y) : Below X.heap.size X Y.drew := h.drew
theorem row_pair (w : World) (x y : Int) (t : TypeId) : Row (w.alloc (.cells #[.int .u64 x, .int .u64 y] t)) w.heap.size 0 2 (pr x y) := fun j hj => by
  rw [Nat.zero_add, World.cell?_alloc_new]
  match j, hj with
  | 0, _ => rfl
  | 1, _ => rfl
theorem row_new2 {w : World} {n : Nat} {x y : Int} {t : TypeId} (h : n = w.heap.size) : Row (w.alloc (.cells #[.int .u64 x, .int .u64 y] t)) n 0 2 (pr x y) := by
  subst h
  exact row_pair w x y t
theorem row_old2 {w : World} {n : Nat} {f : Nat → Int} (o : Obj) (h : Row w n 0 2 f) : Row (w.alloc o) n 0 2 f := h.kept (bel_alloc o (Below.refl _ w)) (h.lt (by omega))
theorem row_bel2 {Y Z : World} {n : Nat} {f : Nat → Int} (hb : Below Y.heap.size Y Z) (h : Row Y n 0 2 f) : Row Z n 0 2 f := h.kept hb (h.lt (by omega))
theorem crow_old {w : World} {ao : Option Addr} {ls : List LQ} {A : Nat → Option Addr} {C : Nat → Nat} (o : Obj) (h : CRow w ao ls A C) : CRow (w.alloc o) ao ls A C := h.kept (bel_alloc o (Below.refl _ w))
theorem keep_cell {W W' : World} {a : Addr} {v : Value} (h : W.cell? a = some v) (hb : Below W.heap.size W W') : W'.cell? a = some v := (hb.cell (World.block_lt_of_cell? W _ h)).trans h
theorem row_four (w : World) (t : TypeId) : Row (w.alloc (.cells #[.int .u64 5, .int .u64 6, .int .u64 7, .int .u64 8] t)) w.heap.size 0 4 dr4 := fun j hj => by
  rw [Nat.zero_add, World.cell?_alloc_new]
  match j, hj with
  | 0, _ => rfl
  | 1, _ => rfl
  | 2, _ => rfl
  | 3, _ => rfl
set_option maxHeartbeats 8000000 in
set_option maxRecDepth 100000 in
theorem held_any (w : World) (ht : Tab w) :
    Calls Tryz.prog 7 #[] w fun e w' => e = .returned (.bool true) ∧ Below w.heap.size w w' := by
  have HT := hid ht
  clear ht
  go_enter Tryz.func7, Tryz.ntmps7
  go_wp2_with fail
  refine (tiny_any w).mono ?_
  rintro e w1 ⟨b1, A1, C1, rfl, hc1, hb1⟩
  go_wp2_with fail
  refine (draws_ok tinyQ 1 b1 0 1 1 A1 C1 w1 rfl rfl hc1 tiny_right).mono ?_
  rintro e w2 ⟨rfl, hb2⟩
  have HB2 := hid (bel_trans hb2 hb1)
  clear hc1 hb1 hb2
  go_wp2_with fail
  rw [tiny_need]
  refine (tiny_any _).mono ?_
  rintro e w3 ⟨b3, A3, C3, rfl, hc3, hb3⟩
  have HD3 : Hid (Row w3 w2.heap.size 0 4 dr4 ∧ w2.heap.size < w3.heap.size) := hid (by
    have h := (row_four w2 31).kept hb3 (by simp)
    exact ⟨h, h.lt (by omega)⟩)
  have HB3 := hid (bel_trans hb3 (bel_alloc _ HB2.out))
  have HC3 := hid hc3
  clear hc3 hb3 HB2
  obtain ⟨BD, hBD⟩ : ∃ x, w2.heap.size = x := ⟨_, rfl⟩
  rw [hBD] at HD3
  rw [hBD]
  clear hBD
  go_wp2_with fail
  have HPV : Hid (Calls Tryz.prog 26 #[.agg #[.int .i64 1, .slice (some ⟨b3, 0, none⟩) 1 1], .slice (some ⟨w3.heap.size, 0, none⟩) 2 2, .slice (some ⟨BD, 0, none⟩) 4 4] (w3.alloc (.cells #[.int .u64 3, .int .u64 4] 31)) fun e w' => proveOut tinyQ (pr 3 4) dr4 1 (w3.alloc (.cells #[.int .u64 3, .int .u64 4] 31)) e w') := hid (by
    have hal := (Below.refl w3.heap.size w3).alloc (Nat.le_refl _) (.cells #[.int .u64 3, .int .u64 4] 31)
    have hbw := bel_trans hal HB3.out
    exact pv_ok tinyQ 1 b3 0 1 1 A3 C3 w3.heap.size 0 2 2 (pr 3 4) BD 0 4 4 dr4 _ rfl rfl (HC3.out.kept hal) tiny_right (shl_pow (k := 1) (by omega)) (by decide) (row_pair w3 3 4 _) (Nums_pr (by omega) (by omega) (by omega) (by omega)) (HD3.out.1.kept hal HD3.out.2) Nums_dr4 tiny_need.symm (by omega) (by decide) (HT.out.kept hbw HT.out.1))
  refine (HPV.out).mono ?_
  rintro e w4 ⟨PB, m, rfl, hpf, hlow, hb4⟩
  have HB4 := hid (bel_trans hb4 (bel_alloc _ HB3.out))
  have HD4 : Hid (Row w4 BD 0 4 dr4 ∧ BD < w4.heap.size) := hid (by
    have hal := bel_trans hb4 ((Below.refl w3.heap.size w3).alloc (Nat.le_refl _) (.cells #[.int .u64 3, .int .u64 4] 31))
    exact ⟨HD3.out.1.kept hal HD3.out.2, Nat.lt_of_lt_of_le HD3.out.2 hal.size⟩)
  have HPF := hid hpf
  clear hpf hlow hb4 HB3 HD3 HC3 HPV
  go_wp2_with fail
  have hal := (Below.refl w4.heap.size w4).alloc (Nat.le_refl _) (.cells #[.slice (some ⟨PB, 0, none⟩) 1 1] 63)
  have HB5 := hid (bel_trans hal HB4.out)
  have HD5 : Hid (Row (w4.alloc (.cells #[.slice (some ⟨PB, 0, none⟩) 1 1] 63)) BD 0 4 dr4 ∧ BD < (w4.alloc (.cells #[.slice (some ⟨PB, 0, none⟩) 1 1] 63)).heap.size) := hid ⟨HD4.out.1.kept hal HD4.out.2, Nat.lt_of_lt_of_le HD4.out.2 hal.size⟩
  have HP5 := hid (HPF.out.kept hal)
  have HQ5 : Hid ((w4.alloc (.cells #[.slice (some ⟨PB, 0, none⟩) 1 1] 63)).cell? ⟨w4.heap.size, 0, none⟩ = some (.slice (some ⟨PB, 0, none⟩) 1 1)) := hid (by rw [World.cell?_alloc_new]; rfl)
  obtain ⟨Q, hQ⟩ : ∃ x, w4.heap.size = x := ⟨_, rfl⟩
  rw [hQ] at HQ5
  rw [hQ]
  clear hQ hal HB4 HD4 HPF
  generalize w4.alloc (.cells #[.slice (some ⟨PB, 0, none⟩) 1 1] 63) = W5 at HB5 HD5 HP5 HQ5 ⊢
  have HV : Hid (∀ (q : Int) (r : Bool) (W' : World) (x1 x2 bT : Nat) (A : Nat → Option Addr) (C : Nat → Nat), (q = 7 ∧ r = true ∨ q = 8 ∧ r = false) → CRow W' (some ⟨bT, 0, none⟩) tinyQ.layers A C → Row W' x1 0 2 (pr 3 4) → Row W' x2 0 2 (pr 12 q) → Below W5.heap.size W5 W' → Calls Tryz.prog 38 #[.agg #[.int .i64 1, .slice (some ⟨bT, 0, none⟩) 1 1], .slice (some ⟨x1, 0, none⟩) 2 2, .slice (some ⟨x2, 0, none⟩) 2 2, .agg #[.slice (some ⟨PB, 0, none⟩) 1 1], .slice (some ⟨BD, 0, none⟩) 4 4] W' fun e w'' => e = .returned (.tuple #[.bool r, .int .i64 0]) ∧ Below W5.heap.size W5 w'') := hid (fun q r W' x1 x2 bT A C hq hcr h1 h2 hb => by
    have hq2 : 0 ≤ q ∧ q ≤ 18446744073709551615 := by rcases hq with ⟨h, _⟩ | ⟨h, _⟩ <;> omega
    refine (vf_ok tinyQ 1 bT 0 1 1 A C x1 0 2 2 x2 0 2 2 (pr 3 4) (pr 12 q) (some ⟨PB, 0, none⟩) 1 1 (rightP tinyQ (pr 3 4) dr4) m BD 0 4 4 dr4 W' rfl rfl hcr tiny_right rfl (HP5.out.kept hb) (rightP_nums _ _ _) (rightP_shaped _ _ _) tiny_ends h1 (Nums_pr (by omega) (by omega) (by omega) (by omega)) h2 (Nums_pr (by omega) (by omega) hq2.1 hq2.2) (HD5.out.1.kept hb HD5.out.2) Nums_dr4 tiny_need.symm (by omega) (by decide) (HT.out.kept (bel_trans hb HB5.out) HT.out.1)).mono ?_
    rintro e w'' ⟨r', rfl, hr', hb'⟩
    refine ⟨?_, bel_trans hb' hb⟩
    rcases hq with ⟨rfl, rfl⟩ | ⟨rfl, rfl⟩
    · rw [hr'.2 tiny_yes]
    · cases r' with
      | false => rfl
      | true => exact absurd (hr'.1 rfl) tiny_no)
  have hq := HQ5.out
  have HBS := hid (Below.refl W5.heap.size W5)
  clear HD5 HP5 HQ5
  go_cut [6, 7] (fun a6 a7 wx => a6 = .bool true ∧ a7 = .int .i64 0 ∧ Hid (Below W5.heap.size W5 wx))
  case first =>
    go_region_held3 (fun W => W.cell? ⟨Q, 0, none⟩ = some (.slice (some ⟨PB, 0, none⟩) 1 1)) (first | assumption | (refine keep_cell hq ?_; repeat (first | exact HBS.out | exact hbV | apply bel_alloc | refine bel_trans hbT ?_ | apply bel_drew))) (first
      | (go_at_call 37; refine (tiny_any _).mono ?_; rintro e wT ⟨bT, AT, CT, rfl, hcT, hbT⟩)
      | (go_at_call 38; refine (HV.out 7 true _ _ _ _ AT CT (.inl ⟨rfl, rfl⟩) (by repeat (first | exact hcT | apply crow_old)) (by repeat (first | exact row_new2 (by simp) | apply row_old2 | refine row_bel2 hbT ?_)) (by repeat (first | exact row_new2 (by simp) | apply row_old2 | refine row_bel2 hbT ?_)) (by repeat (first | exact HBS.out | apply bel_alloc | refine bel_trans hbT ?_ | apply bel_drew))).mono ?_; rintro e wV ⟨rfl, hbV⟩))
    all_goals (go_wp2_with fail)
    all_goals go_meet
    all_goals exact ⟨rfl, rfl, hid hbV⟩
  case rest =>
    clear HBS
    obtain ⟨rfl, rfl, HBS⟩ := hcut
    go_wp2_with fail
    go_cut [8, 9] (fun a8 a9 wx => a8 = .bool false ∧ a9 = .int .i64 0 ∧ Hid (Below W5.heap.size W5 wx))
    case first =>
      go_region_held3 (fun W => W.cell? ⟨Q, 0, none⟩ = some (.slice (some ⟨PB, 0, none⟩) 1 1)) (first | assumption | (refine keep_cell hq ?_; repeat (first | exact HBS.out | exact hbV | apply bel_alloc | refine bel_trans hbT ?_ | apply bel_drew))) (first
        | (go_at_call 37; refine (tiny_any _).mono ?_; rintro e wT ⟨bT, AT, CT, rfl, hcT, hbT⟩)
        | (go_at_call 38; refine (HV.out 8 false _ _ _ _ AT CT (.inr ⟨rfl, rfl⟩) (by repeat (first | exact hcT | apply crow_old)) (by repeat (first | exact row_new2 (by simp) | apply row_old2 | refine row_bel2 hbT ?_)) (by repeat (first | exact row_new2 (by simp) | apply row_old2 | refine row_bel2 hbT ?_)) (by repeat (first | exact HBS.out | apply bel_alloc | refine bel_trans hbT ?_ | apply bel_drew))).mono ?_; rintro e wV ⟨rfl, hbV⟩))
      all_goals (go_wp2_with fail)
      all_goals go_meet
      all_goals exact ⟨rfl, rfl, hid hbV⟩
    case rest =>
      clear HBS
      obtain ⟨rfl, rfl, HBS⟩ := hcut
      go_wp2_with fail
      go_ret
      exact ⟨rfl, bel_trans HBS.out HB5.out⟩

end Go.Proofs.YtbchbmelofojkaaGreatDoor

/-
  A contract of slices.Equal at numbers of 64 bits, where both lists have the same numbers; nothing is written.
-/
namespace Go.Proofs.YtbchbmelofojkaaGreatDoor
open Go.RowKit
set_option linter.unusedVariables false
attribute [local go_sem ↓] Go.wp_at_zero Go.wp_at_succ

set_option maxHeartbeats 2000000 in
set_option maxRecDepth 100000 in
theorem equal_ok (a0 a1 : Option Addr) (n c0 c1 : Nat) (f g : Nat → Int) (w : World) (hn : n ≤ 100000) (p0 : PRow w a0 n f) (p1 : PRow w a1 n g) (e : ∀ j, j < n → f j = g j) :
    Calls Tryz.prog 21 #[.slice a0 n c0, .slice a1 n c1] w fun e w' => e = .returned (.bool true) ∧ Below w.heap.size w w' := by
  have H0 := hid p0
  have H1 := hid (p1.congr fun j hj => (e j hj).symm)
  clear p0 p1 e
  go_enter Tryz.func21, Tryz.ntmps21
  go_wp2_with fail
  go_loopg [13] n (fun q i wr => ∃ k : Nat, k ≤ n ∧ q = n - k ∧ i = .int .i64 (k : Int) ∧ Hid (PRow wr a0 n f) ∧ Hid (PRow wr a1 n f) ∧ Hid (Below w.heap.size w wr))
  case atStart => exact ⟨0, by omega, rfl, rfl, H0, H1, hid (Below.refl _ _)⟩
  case round =>
    clear H0 H1
    obtain ⟨k, hk, rfl, rfl, H0, H1, HB⟩ := hrel
    by_cases hlt : k < n
    · obtain ⟨b1, o1, rfl, r1⟩ := H0.out (by omega)
      obtain ⟨b2, o2, rfl, r2⟩ := H1.out (by omega)
      have c1 := r1 k hlt
      have c2 := r2 k hlt
      clear r1 r2
      obtain ⟨a, ha⟩ : ∃ a, f k = a := ⟨_, rfl⟩
      rw [ha] at c1 c2
      clear ha
      have k0 : (0 : Int) ≤ (k : Int) := by omega
      have k1 : (k : Int) < (n : Int) := by omega
      go_wp2_with fail
      go_region_with (first | fail)
      all_goals (go_wp2_with fail)
      all_goals (go_roundg (n - (k + 1)))
      all_goals first | (go_light; omega) | (exact ⟨k + 1, by omega, rfl, by go_num, hid H0.out.drew, hid H1.out.drew, hid HB.out.drew⟩)
    · have e : k = n := by omega
      subst e
      go_wp2_with fail
      go_ret
      exact ⟨rfl, HB.out⟩

end Go.Proofs.YtbchbmelofojkaaGreatDoor

/-
  The whole's own tiny circuit and what is said of it: it is proved without asking, and a wrong output is refused.
-/
namespace Go.Proofs.YtbchbmelofojkaaGreatDoor
open Go.RowKit
set_option linter.unusedVariables false
attribute [local go_sem ↓] Go.wp_at_zero Go.wp_at_succ

def topQ : CQ := ⟨1, [⟨1, [⟨true, 0, 1⟩, ⟨false, 0, 1⟩]⟩, ⟨0, [⟨true, 0, 1⟩]⟩]⟩
theorem top_right : topQ.right := by
  refine ⟨by decide, by decide, by decide, ⟨by decide, by decide, ?_⟩, ⟨by decide, by decide, ?_⟩, trivial⟩
  · intro q hq
    simp at hq
    rcases hq with rfl | rfl <;> exact ⟨by decide, by decide⟩
  · intro q hq
    simp at hq
    subst hq
    exact ⟨by decide, by decide⟩
/-- Its only output. -/
theorem top_out : valsQ topQ (pr 3 4) 2 0 = 84 := by kernel_rfl
theorem top_lg0 : (partsQ topQ).lg 0 = 0 := by decide
theorem top_lg1 : 0 < (partsQ topQ).lg 1 := by decide
theorem top_ends : endsQ topQ 2 1 := by unfold endsQ; decide
def one1 (x : Int) (_ : Nat) : Int := x
theorem Nums_one1 {x : Int} (h0 : 0 ≤ x) (h1 : x ≤ 18446744073709551615) : Nums (one1 x) := fun _ => ⟨h0, h1⟩
theorem row_one (w : World) (x : Int) (t : TypeId) : Row (w.alloc (.cells #[.int .u64 x] t)) w.heap.size 0 1 (one1 x) := fun j hj => by
  rw [Nat.zero_add, World.cell?_alloc_new]
  match j, hj with
  | 0, _ => rfl
theorem row_new1 {w : World} {n : Nat} {x : Int} {t : TypeId} (h : n = w.heap.size) : Row (w.alloc (.cells #[.int .u64 x] t)) n 0 1 (one1 x) := by
  subst h
  exact row_one w x t
theorem row_old1 {w : World} {n : Nat} {f : Nat → Int} (o : Obj) (h : Row w n 0 1 f) : Row (w.alloc o) n 0 1 f := h.kept (bel_alloc o (Below.refl _ w)) (h.lt (by omega))
theorem row_bel1 {Y Z : World} {n : Nat} {f : Nat → Int} (hb : Below Y.heap.size Y Z) (h : Row Y n 0 1 f) : Row Z n 0 1 f := h.kept hb (h.lt (by omega))
/-- The proof of it holds for 84, and not for 85. -/
theorem top_just (p : PQ) (hp : p = fiatP topQ 2 1 (pr 3 4)) (D : Nat → Int) (x : Int) (inp : Nat → K) (h : (partsQ topQ).holds D p.told (ofK (evS (fun j => kk (one1 x j)) (fun j => kk (D j)) ((partsQ topQ).lg 0))) inp) : kk x = kk 84 := by
  subst hp
  have h2 := first_just top_right (pr 3 4) _ D _ inp top_lg1 h
  have h3 := congrArg kk h2
  rw [kk_ofK, kk_ofK, top_lg0, evS_zero] at h3
  unfold Parts.tru at h3
  rw [top_lg0, evS_zero] at h3
  have h4 : valsK topQ (pr 3 4) 0 0 = kk 84 := by
    show kk (valsQ topQ (pr 3 4) 2 0) = _
    rw [top_out]
  rw [h4] at h3
  exact h3
theorem top_ne : kk 85 ≠ kk 84 := by decide
theorem top_val (j : Nat) (hj : j < 1) : valsQ topQ (pr 3 4) 2 j = one1 84 j := by
  obtain rfl : j = 0 := by omega
  exact top_out
theorem tkK_congr (g : Nat → K) (n : Nat) {f f' : Nat → Int} (h : ∀ j, j < n → kk (f j) = kk (f' j)) : tkK g n f = tkK g n f' := by
  unfold tkK
  rw [takesK_congr n n h]
theorem top_askG : askG topQ 2 1 (pr 3 4) (one1 84) = askG topQ 2 1 (pr 3 4) (valsQ topQ (pr 3 4) 2) := by
  unfold askG
  exact tkK_congr _ 1 fun j hj => by rw [top_val j hj]
theorem top_yes : (partsQ topQ).holds (fiatD topQ 2 1 (pr 3 4) (one1 84) (fiatP topQ 2 1 (pr 3 4))) (fiatP topQ 2 1 (pr 3 4)).told (ofK (evS (fun j => kk (one1 84 j)) (fun j => kk (fiatD topQ 2 1 (pr 3 4) (one1 84) (fiatP topQ 2 1 (pr 3 4)) j)) ((partsQ topQ).lg 0))) (fun j => kk (pr 3 4 j)) := by
  have h := fiat_yes top_right 2 1 (pr 3 4)
  have e : fiatD topQ 2 1 (pr 3 4) (valsQ topQ (pr 3 4) topQ.layers.length) (fiatP topQ 2 1 (pr 3 4)) = fiatD topQ 2 1 (pr 3 4) (one1 84) (fiatP topQ 2 1 (pr 3 4)) := by
    unfold fiatD ask1
    rw [top_askG]; rfl
  rw [e] at h
  rw [top_lg0, evS_zero] at h ⊢
  have e2 : valsQ topQ (pr 3 4) topQ.layers.length 0 = one1 84 0 := top_val 0 (by omega)
  rw [e2] at h
  exact h

set_option maxHeartbeats 2000000 in
set_option maxRecDepth 100000 in
theorem ttiny_any (w : World) :
    Calls Tryz.prog 63 #[] w fun e w' => ∃ (b : Nat) (A : Nat → Option Addr) (C : Nat → Nat), e = .returned (.agg #[.int .i64 1, .slice (some ⟨b, 0, none⟩) 2 2]) ∧ CRow w' (some ⟨b, 0, none⟩) topQ.layers A C ∧ Below w.heap.size w w' := by
  go_enter Tryz.func63, Tryz.ntmps63
  go_wp2_with fail
  refine bodyPost_ret (results_circ1 rfl rfl (by rw [World.cell?_alloc_old _ _ _ (by simp <;> omega), World.cell?_alloc_old _ _ _ (by simp <;> omega), World.cell?_alloc_old _ _ _ (by simp <;> omega), World.cell?_alloc_new]; rfl) (by rw [World.cell?_alloc_old _ _ _ (by simp <;> omega), World.cell?_alloc_old _ _ _ (by simp <;> omega), World.cell?_alloc_old _ _ _ (by simp <;> omega), World.cell?_alloc_new]; rfl)) rfl ?_
  refine ⟨w.heap.size + 1 + 1 + 1, fun i => if i = 0 then some ⟨w.heap.size + 1, 0, none⟩ else some ⟨w.heap.size + 1 + 1, 0, none⟩, fun i => if i = 0 then 2 else 1, rfl, ?_, ((((Below.refl w.heap.size w).alloc (Nat.le_refl _) _).alloc (by simp) _).alloc (by simp; omega) _).alloc (by simp; omega) _⟩
  generalize hO1 : Obj.cells #[Value.int .i64 1, .slice (some ⟨w.heap.size + 1 + 1 + 1, 0, none⟩) 2 2] 25 = o1
  have s1 : (w.alloc o1).heap.size = w.heap.size + 1 := by simp
  generalize w.alloc o1 = w1 at s1 ⊢
  generalize hO2 : Obj.cells #[Value.bool true, .int .i64 0, .int .i64 1, .bool false, .int .i64 0, .int .i64 1] 100 = o2
  have s2 : (w1.alloc o2).heap.size = w.heap.size + 1 + 1 := by simp [s1]
  have g : ∀ j, (w1.alloc o2).cell? ⟨w.heap.size + 1, j, none⟩ = (#[Value.bool true, .int .i64 0, .int .i64 1, .bool false, .int .i64 0, .int .i64 1] : Array Value)[j]? := fun j => by
    rw [← hO2, ← s1, World.cell?_alloc_new]
  generalize w1.alloc o2 = w2 at s2 g ⊢
  generalize hO3 : Obj.cells #[Value.bool true, .int .i64 0, .int .i64 1] 100 = o3
  have s3 : (w2.alloc o3).heap.size = w.heap.size + 1 + 1 + 1 := by simp [s2]
  have k : ∀ j, (w2.alloc o3).cell? ⟨w.heap.size + 1 + 1, j, none⟩ = (#[Value.bool true, .int .i64 0, .int .i64 1] : Array Value)[j]? := fun j => by
    rw [← hO3, ← s2, World.cell?_alloc_new]
  have g3 : ∀ j, (w2.alloc o3).cell? ⟨w.heap.size + 1, j, none⟩ = (#[Value.bool true, .int .i64 0, .int .i64 1, .bool false, .int .i64 0, .int .i64 1] : Array Value)[j]? := fun j => by
    rw [World.cell?_alloc_old _ _ _ (by show w.heap.size + 1 ≠ w2.heap.size; omega)]; exact g j
  generalize w2.alloc o3 = w3 at s3 k g3 ⊢
  have hl : ∀ j, (w3.alloc (Obj.cells #[Value.int .i64 1, .slice (some ⟨w.heap.size + 1, 0, none⟩) 2 2, .int .i64 0, .slice (some ⟨w.heap.size + 1 + 1, 0, none⟩) 1 1] 96)).cell? ⟨w.heap.size + 1 + 1 + 1, j, none⟩ = (#[Value.int .i64 1, .slice (some ⟨w.heap.size + 1, 0, none⟩) 2 2, .int .i64 0, .slice (some ⟨w.heap.size + 1 + 1, 0, none⟩) 1 1] : Array Value)[j]? := fun j => by
    rw [← s3, World.cell?_alloc_new]
  have g' : ∀ j o, (w3.alloc o).cell? ⟨w.heap.size + 1, j, none⟩ = (#[Value.bool true, .int .i64 0, .int .i64 1, .bool false, .int .i64 0, .int .i64 1] : Array Value)[j]? := fun j o => by
    rw [World.cell?_alloc_old _ _ _ (by show w.heap.size + 1 ≠ w3.heap.size; omega)]; exact g3 j
  have k' : ∀ j o, (w3.alloc o).cell? ⟨w.heap.size + 1 + 1, j, none⟩ = (#[Value.bool true, .int .i64 0, .int .i64 1] : Array Value)[j]? := fun j o => by
    rw [World.cell?_alloc_old _ _ _ (by show w.heap.size + 1 + 1 ≠ w3.heap.size; omega)]; exact k j
  intro _
  refine ⟨_, _, rfl, fun i l hi => ?_⟩
  match i, hi with
  | 0, hi =>
    obtain rfl : (⟨1, [⟨true, 0, 1⟩, ⟨false, 0, 1⟩]⟩ : LQ) = l := by simpa [topQ] using hi
    refine ⟨(hl 0).trans rfl, (hl 1).trans rfl, fun _ => ⟨_, _, rfl, fun j q hq => ?_⟩, Nat.le_refl 2⟩
    match j, hq with
    | 0, hq =>
      obtain rfl : (⟨true, 0, 1⟩ : GQ) = q := by simpa using hq
      exact ⟨(g' 0 _).trans rfl, (g' 1 _).trans rfl, (g' 2 _).trans rfl⟩
    | 1, hq =>
      obtain rfl : (⟨false, 0, 1⟩ : GQ) = q := by simpa using hq
      exact ⟨(g' 3 _).trans rfl, (g' 4 _).trans rfl, (g' 5 _).trans rfl⟩
    | j + 2, hq => simp at hq
  | 1, hi =>
    obtain rfl : (⟨0, [⟨true, 0, 1⟩]⟩ : LQ) = l := by simpa [topQ] using hi
    refine ⟨(hl 2).trans rfl, (hl 3).trans rfl, fun _ => ⟨_, _, rfl, fun j q hq => ?_⟩, Nat.le_refl 1⟩
    match j, hq with
    | 0, hq =>
      obtain rfl : (⟨true, 0, 1⟩ : GQ) = q := by simpa using hq
      exact ⟨(k' 0 _).trans rfl, (k' 1 _).trans rfl, (k' 2 _).trans rfl⟩
    | j + 1, hq => simp at hq
  | i + 2, hi => simp [topQ] at hi

set_option maxHeartbeats 8000000 in
set_option maxRecDepth 100000 in
theorem said_any (w : World) (ht : Tab w) :
    Calls Tryz.prog 27 #[] w fun e w' => e = .returned (.bool true) ∧ Below w.heap.size w w' := by
  have HT := hid (fun W (h : Below w.heap.size w W) => ht.kept h ht.1)
  clear ht
  go_enter Tryz.func27, Tryz.ntmps27
  go_wp2_with fail
  refine (ttiny_any w).mono ?_
  rintro e w1 ⟨b1, A1, C1, rfl, hc1, hb1⟩
  have HB1 := hid hb1
  have HC1 := hid hc1
  clear hc1 hb1
  go_wp2_with fail
  have HPV : Hid (Calls Tryz.prog 62 #[.agg #[.int .i64 1, .slice (some ⟨b1, 0, none⟩) 2 2], .slice (some ⟨w1.heap.size, 0, none⟩) 2 2] (w1.alloc (.cells #[.int .u64 3, .int .u64 4] 31)) fun e w' => fproveOut topQ (pr 3 4) 2 2 1 (w1.alloc (.cells #[.int .u64 3, .int .u64 4] 31)) e w') := hid (by
    have hal := (Below.refl w1.heap.size w1).alloc (Nat.le_refl _) (.cells #[.int .u64 3, .int .u64 4] 31)
    exact fpv_ok topQ 1 b1 0 2 2 A1 C1 w1.heap.size 0 2 2 1 (pr 3 4) _ rfl rfl (HC1.out.kept hal) top_right (shl_pow (k := 1) (by omega)) (by decide) (by decide) (row_pair w1 3 4 _) (Nums_pr (by omega) (by omega) (by omega) (by omega)) (HT.out _ (bel_trans hal HB1.out)))
  refine (HPV.out).mono ?_
  rintro e w2 ⟨dk, PB, m, rfl, hrow, hpf, hlow, hfr, hb2⟩
  have hal := (Below.refl w2.heap.size w2).alloc (Nat.le_refl _) (.cells #[.slice (some ⟨PB, 0, none⟩) 2 2] 63)
  have HB3 := hid (bel_trans hal (bel_trans hb2 (bel_alloc _ HB1.out)))
  have HP3 := hid (hpf.kept hal)
  have HD3 : Hid (Row (w2.alloc (.cells #[.slice (some ⟨PB, 0, none⟩) 2 2] 63)) dk 0 1 (valsQ topQ (pr 3 4) 2)) := hid (hrow.kept hal (hrow.lt (by omega)))
  have HQ3 : Hid ((w2.alloc (.cells #[.slice (some ⟨PB, 0, none⟩) 2 2] 63)).cell? ⟨w2.heap.size, 0, none⟩ = some (.slice (some ⟨PB, 0, none⟩) 2 2)) := hid (by rw [World.cell?_alloc_new]; rfl)
  clear hrow hpf hlow hfr hb2 hal HB1 HC1 HPV
  go_wp2_with fail
  obtain ⟨Q, hQ⟩ : ∃ x, w2.heap.size = x := ⟨_, rfl⟩
  rw [hQ] at HQ3
  rw [hQ]
  clear hQ
  generalize w2.alloc (.cells #[.slice (some ⟨PB, 0, none⟩) 2 2] 63) = W3 at HB3 HP3 HD3 HQ3 ⊢
  have HV : Hid (∀ (q : Int) (r : Bool) (W' : World) (x1 x2 bT : Nat) (A : Nat → Option Addr) (C : Nat → Nat), (q = 84 ∧ r = true ∨ q = 85 ∧ r = false) → CRow W' (some ⟨bT, 0, none⟩) topQ.layers A C → Row W' x1 0 2 (pr 3 4) → Row W' x2 0 1 (one1 q) → Below W3.heap.size W3 W' → Calls Tryz.prog 64 #[.agg #[.int .i64 1, .slice (some ⟨bT, 0, none⟩) 2 2], .slice (some ⟨x1, 0, none⟩) 2 2, .slice (some ⟨x2, 0, none⟩) 1 1, .agg #[.slice (some ⟨PB, 0, none⟩) 2 2]] W' fun e w'' => e = .returned (.tuple #[.bool r, .int .i64 0]) ∧ Below W3.heap.size W3 w'') := hid (fun q r W' x1 x2 bT A C hq hcr h1 h2 hb => by
    have hq2 : 0 ≤ q ∧ q ≤ 18446744073709551615 := by rcases hq with ⟨h, _⟩ | ⟨h, _⟩ <;> omega
    refine (fvf_ok topQ 1 bT 0 2 2 A C x1 0 2 2 x2 0 1 1 (pr 3 4) (one1 q) (some ⟨PB, 0, none⟩) 2 2 (fiatP topQ 2 1 (pr 3 4)) m W' rfl rfl hcr top_right rfl (HP3.out.kept hb) (fiatP_nums _ _ _ _) (fiatP_shaped _ _ _ _) top_ends h1 (Nums_pr (by omega) (by omega) (by omega) (by omega)) h2 (Nums_one1 hq2.1 hq2.2) (HT.out _ (bel_trans hb HB3.out))).mono ?_
    rintro e w'' ⟨r', x, rfl, ⟨rfl, hr'⟩, hb'⟩
    refine ⟨?_, bel_trans hb' hb⟩
    rcases hq with ⟨rfl, rfl⟩ | ⟨rfl, rfl⟩
    · rw [hr'.2 top_yes]
    · cases r' with
      | false => rfl
      | true => exact absurd (top_just _ rfl _ _ _ (hr'.1 rfl)) top_ne)
  have hq := HQ3.out
  have HBS := hid (Below.refl W3.heap.size W3)
  go_cut [4, 5] (fun a6 a7 wx => a6 = .bool true ∧ a7 = .int .i64 0 ∧ Hid (Below W3.heap.size W3 wx))
  case first =>
    go_region_held3 (fun W => W.cell? ⟨Q, 0, none⟩ = some (.slice (some ⟨PB, 0, none⟩) 2 2)) (first | assumption | (refine keep_cell hq ?_; repeat (first | exact HBS.out | exact hbV | apply bel_alloc | refine bel_trans hbT ?_ | apply bel_drew))) (first
      | (go_at_call 63; refine (ttiny_any _).mono ?_; rintro e wT ⟨bT, AT, CT, rfl, hcT, hbT⟩)
      | (go_at_call 64; refine (HV.out 84 true _ _ _ _ AT CT (.inl ⟨rfl, rfl⟩) (by repeat (first | exact hcT | apply crow_old)) (by repeat (first | exact row_new2 (by simp) | apply row_old2 | refine row_bel2 hbT ?_)) (by repeat (first | exact row_new1 (by simp) | apply row_old1 | refine row_bel1 hbT ?_)) (by repeat (first | exact HBS.out | apply bel_alloc | refine bel_trans hbT ?_ | apply bel_drew))).mono ?_; rintro e wV ⟨rfl, hbV⟩))
    all_goals (go_wp2_with fail)
    all_goals go_meet
    all_goals exact ⟨rfl, rfl, hid hbV⟩
  case rest =>
    clear HBS
    obtain ⟨rfl, rfl, HBS⟩ := hcut
    go_wp2_with fail
    go_cut [6, 7] (fun a8 a9 wx => a8 = .bool false ∧ a9 = .int .i64 0 ∧ Hid (Below W3.heap.size W3 wx))
    case first =>
      go_region_held3 (fun W => W.cell? ⟨Q, 0, none⟩ = some (.slice (some ⟨PB, 0, none⟩) 2 2)) (first | assumption | (refine keep_cell hq ?_; repeat (first | exact HBS.out | exact hbV | apply bel_alloc | refine bel_trans hbT ?_ | apply bel_drew))) (first
        | (go_at_call 63; refine (ttiny_any _).mono ?_; rintro e wT ⟨bT, AT, CT, rfl, hcT, hbT⟩)
        | (go_at_call 64; refine (HV.out 85 false _ _ _ _ AT CT (.inr ⟨rfl, rfl⟩) (by repeat (first | exact hcT | apply crow_old)) (by repeat (first | exact row_new2 (by simp) | apply row_old2 | refine row_bel2 hbT ?_)) (by repeat (first | exact row_new1 (by simp) | apply row_old1 | refine row_bel1 hbT ?_)) (by repeat (first | exact HBS.out | apply bel_alloc | refine bel_trans hbT ?_ | apply bel_drew))).mono ?_; rintro e wV ⟨rfl, hbV⟩))
      all_goals (go_wp2_with fail)
      all_goals go_meet
      all_goals exact ⟨rfl, rfl, hid hbV⟩
    case rest =>
      clear HBS
      obtain ⟨rfl, rfl, HBS⟩ := hcut
      have HD4 := hid (HD3.out.kept HBS.out (HD3.out.lt (by omega)))
      have HB4 := hid (bel_trans HBS.out HB3.out)
      clear HV HD3 HB3 HBS HQ3 hq HP3
      have HEQ : Hid (∀ x1, Row (wc.alloc (.cells #[.int .u64 84] 31)) x1 0 1 (one1 84) → Calls Tryz.prog 21 #[.slice (some ⟨dk, 0, none⟩) 1 1, .slice (some ⟨x1, 0, none⟩) 1 1] (wc.alloc (.cells #[.int .u64 84] 31)) fun e w' => e = .returned (.bool true) ∧ Below wc.heap.size wc w') := hid (fun x1 hx => by
        have hal := (Below.refl wc.heap.size wc).alloc (Nat.le_refl _) (.cells #[.int .u64 84] 31)
        refine (equal_ok (some ⟨dk, 0, none⟩) (some ⟨x1, 0, none⟩) 1 1 1 _ _ _ (by omega) (PRow.of (HD4.out.kept hal (HD4.out.lt (by omega)))) (PRow.of hx) top_val).mono ?_
        rintro e w' ⟨rfl, hb⟩
        exact ⟨rfl, hal.trans (hb.mono hal.size)⟩)
      go_wp2_with (go_at_call 21; refine (HEQ.out _ (row_one wc 84 _)).mono ?_; rintro e w5 ⟨rfl, hb5⟩)
      go_ret
      exact ⟨rfl, bel_trans hb5 HB4.out⟩

/-- What the laws of the whole carry: the circuit, inputs, draws, values. -/
structure TpS (w W : World) (X : Nat) (g : Int) (v : Value) (BX N : Nat) (x : Nat → Int) (BD q : Nat) (d : Nat → Int) (V n dk M : Nat) (y : Nat → Int) : Prop where
  st : StW w W X g v
  x : Row W BX 0 N x
  d : Row W BD 0 q d
  cv : W.cell? ⟨V, n, none⟩ = some (.slice (some ⟨dk, 0, none⟩) M M)
  y : Row W dk 0 M y
  hN : 1 ≤ N
  hq : 1 ≤ q
  hM : 1 ≤ M
theorem TpS.next {w W W' : World} {X : Nat} {g : Int} {v : Value} {BX N : Nat} {x : Nat → Int} {BD q : Nat} {d : Nat → Int} {V n dk M : Nat} {y : Nat → Int} (h : TpS w W X g v BX N x BD q d V n dk M y) (hb : Below W.heap.size W W') : TpS w W' X g v BX N x BD q d V n dk M y :=
  ⟨h.st.next hb, h.x.kept hb (h.x.lt h.hN), h.d.kept hb (h.d.lt h.hq), keep_cell h.cv hb, h.y.kept hb (h.y.lt h.hM), h.hN, h.hq, h.hM⟩
/-- Four cells. -/
abbrev FourT (X V n Q : Nat) (u v d p : Value) (W : World) : Prop := W.cell? ⟨X, 0, none⟩ = some u ∧ W.cell? ⟨X, 1, none⟩ = some v ∧ W.cell? ⟨V, n, none⟩ = some d ∧ W.cell? ⟨Q, 0, none⟩ = some p
theorem FourT.kept {X V n Q : Nat} {u v d p : Value} {W W' : World} (h : FourT X V n Q u v d p W) (hb : Below W.heap.size W W') : FourT X V n Q u v d p W' := ⟨keep_cell h.1 hb, keep_cell h.2.1 hb, keep_cell h.2.2.1 hb, keep_cell h.2.2.2 hb⟩
theorem need_pos {c : CQ} (hc : c.right) : 1 ≤ needQ c := by
  have h := at_fits (c := c) (j := 0) (List.length_pos_iff.2 hc.some)
  omega

end Go.Proofs.YtbchbmelofojkaaGreatDoor

/-
  A contract of the law TopLooks, for every input: it answers true and writes nothing that was there.
-/
namespace Go.Proofs.YtbchbmelofojkaaGreatDoor
open Go.RowKit
set_option linter.unusedVariables false
attribute [local go_sem ↓] Go.wp_at_zero Go.wp_at_succ

theorem irow_turned {w : World} {ao : Option Addr} {g m base : Nat} {pl : Nat → Nat} (ha : 0 < m → ao = some ⟨g, 0, none⟩) (h : 0 < m → RV w base g m (intV fun j => (fun j => ((pl j : Nat) : Int)) (m - 1 - j))) : IRowP w ao m (fun j => (((fun j => pl (m - 1 - j)) j : Nat) : Int)) := fun h0 => ⟨g, 0, ha h0, fun j hj => by rw [Nat.zero_add]; exact (h h0).c j hj⟩
/-- Looks, turned. -/
def OM.turned (mm : OM) (m : Nat) : OM := ⟨fun i => mm.pa (m - 1 - i), fun i => mm.ta (m - 1 - i), fun i => mm.pc (m - 1 - i), fun i => mm.tc (m - 1 - i), fun i => mm.A (m - 1 - i), fun i => mm.C (m - 1 - i)⟩
def lkA (mm : OM) (n j : Nat) : Value := .slice (mm.pa j) n (mm.pc j)
def lkB (mm : OM) (n j : Nat) : Value := .slice (mm.ta j) n (mm.tc j)
theorem op_cells {w : World} {lb n m : Nat} {F G : Nat → Int} {pl : Nat → Nat} {mm : OM} (ho : OpRow w (some ⟨lb, 0, none⟩) (rightO F G n m pl) mm) : ∀ i, i < m → w.cell? ⟨lb, 2 * i, none⟩ = some (lkA mm n i) ∧ w.cell? ⟨lb, 2 * i + 1, none⟩ = some (lkB mm n i) := fun i hi => by
  obtain ⟨b, off, e, hc⟩ := ho (show 0 < m by omega)
  simp only [Option.some.injEq, Addr.mk.injEq] at e
  obtain ⟨rfl, rfl, _⟩ := e
  have h := hc i hi
  rw [Nat.zero_add] at h
  exact ⟨h.1, h.2.1⟩
theorem op_turned {w : World} {lb n m base g : Nat} {ao : Option Addr} {F G : Nat → Int} {pl : Nat → Nat} {mm : OM} (ho : OpRow w (some ⟨lb, 0, none⟩) (rightO F G n m pl) mm) (ha : 0 < m → ao = some ⟨g, 0, none⟩) (hr : 0 < m → RV w base g (m * 2) (lkV (fun j => lkA mm n (m - 1 - j)) (fun j => lkB mm n (m - 1 - j)))) : OpRow w ao (rightO F G n m fun j => pl (m - 1 - j)) (mm.turned m) := fun h0 => by
  have h0 : 0 < m := h0
  obtain ⟨b, off, e2, hc⟩ := ho h0
  refine ⟨g, 0, ha h0, fun i hi => ?_⟩
  have hi : i < m := hi
  obtain ⟨h1, h2, h3, h4⟩ := hc (m - 1 - i) (show m - 1 - i < m by omega)
  have h5 := (hr h0).at2 (i := i) hi
  rw [show 0 + 2 * i = i * 2 from by omega]
  exact ⟨h5.1, h5.2, h3, h4⟩

/-- Three cells of a box. -/
def Th3 (X : Nat) (p q r : Value) (W : World) : Prop := W.cell? ⟨X, 0, none⟩ = some p ∧ W.cell? ⟨X, 1, none⟩ = some q ∧ W.cell? ⟨X, 2, none⟩ = some r
theorem Th3.kept {X : Nat} {p q r : Value} {W W' : World} (h : Th3 X p q r W) (hb : Below W.heap.size W W') : Th3 X p q r W' := ⟨keepC hb h.1, keepC hb h.2.1, keepC hb h.2.2⟩
theorem Th3.set {X Y j : Nat} {p q r x : Value} {W : World} (h : Th3 X p q r W) (hne : X ≠ Y) : Th3 X p q r (W.setCell ⟨Y, j, none⟩ x) :=
  have hn : ∀ i, (⟨Y, j, none⟩ : Addr) ≠ ⟨X, i, none⟩ := fun i e => hne (by simp only [Addr.mk.injEq] at e; exact e.1.symm)
  ⟨(World.cell?_setCell_other _ _ _ _ (hn 0)).trans h.1, (World.cell?_setCell_other _ _ _ _ (hn 1)).trans h.2.1, (World.cell?_setCell_other _ _ _ _ (hn 2)).trans h.2.2⟩
theorem RV.off {w : World} {base g N : Nat} {u : Nat → Value} (h : RV w base g N u) {Y j : Nat} {x : Value} (hne : Y ≠ g) : RV (w.setCell ⟨Y, j, none⟩ x) base g N u :=
  ⟨h.lo, fun i hi => (World.cell?_setCell_other _ _ _ _ (by intro e; simp only [Addr.mk.injEq] at e; exact hne e.1)).trans (h.c i hi), fun i hi => by rw [World.frozen?_setCell]; exact h.f i hi⟩
/-- An opening's box with a new row of looks. -/
structure TurnS (w W : World) (Y g : Nat) (a : Option Addr) (p q : Value) (m c : Nat) (u : Nat → Value) : Prop where
  bel : Below w.heap.size w W
  bx : Bx3 W Y p q (.slice a m c)
  lo : w.heap.size ≤ g
  ne : Y ≠ g
  row : 0 < m → a = some ⟨g, 0, none⟩ ∧ RV W w.heap.size g (m * 2) u
theorem turn_new {w W W1 : World} {g : Nat} {a : Option Addr} {p q : Value} {m c : Nat} {u : Nat → Value} {t : TypeId} (hW : W.heap.size = w.heap.size) (hb0 : Below w.heap.size w W) (hb : Below W.heap.size W W1) (hg : W.heap.size ≤ g) (hr : 0 < m → a = some ⟨g, 0, none⟩ ∧ RV W1 W.heap.size g (m * 2) u) : ∃ g, TurnS w (W1.alloc (.cells #[p, q, .slice a m c] t)) W1.heap.size g a p q m c u := by
  have hb1 : Below w.heap.size w W1 := hb0.trans (by rw [← hW]; exact hb)
  have hb2 := hb1.trans ((bel_new W1 (.cells #[p, q, .slice a m c] t)).mono hb1.size)
  by_cases h : 0 < m
  · obtain ⟨e, hr1⟩ := hr h
    have hl := World.block_lt_of_cell? W1 _ (hr1.c 0 (by omega))
    refine ⟨g, hb2, Bx3.new _ _ _ _ _, by omega, by intro e; rw [← e] at hl; exact Nat.lt_irrefl _ hl, fun _ => ⟨e, ?_⟩⟩
    rw [← hW]
    exact hr1.kept (bel_new _ _)
  · exact ⟨W1.heap.size + 1, hb2, Bx3.new _ _ _ _ _, by have := hb1.size; omega, by omega, fun h0 => absurd h0 h⟩
theorem turn_set {w W W1 : World} {g : Nat} {a : Option Addr} {p q x y z : Value} {m c : Nat} {u : Nat → Value} (hW : W.heap.size = w.heap.size + 1) (hb0 : Below w.heap.size w W) (hb : Below W.heap.size W W1) (hg : W.heap.size ≤ g) (hz : Bx3 W1 w.heap.size x y z) (hr : 0 < m → a = some ⟨g, 0, none⟩ ∧ RV W1 W.heap.size g (m * 2) u) : ∃ g, TurnS w (((W1.setCell ⟨w.heap.size, 0, none⟩ p).setCell ⟨w.heap.size, 1, none⟩ q).setCell ⟨w.heap.size, 2, none⟩ (.slice a m c)) w.heap.size g a p q m c u := by
  have hb1 : Below w.heap.size w W1 := hb0.trans (hb.mono (by omega))
  have hb2 : Below w.heap.size w (((W1.setCell ⟨w.heap.size, 0, none⟩ p).setCell ⟨w.heap.size, 1, none⟩ q).setCell ⟨w.heap.size, 2, none⟩ (.slice a m c)) := hb1.trans ((but_set3 W1 w.heap.size p q _).below (fun k hk => by rw [show k = w.heap.size from hk]; exact Nat.le_refl _) hb1.size)
  have hbx : Bx3 (((W1.setCell ⟨w.heap.size, 0, none⟩ p).setCell ⟨w.heap.size, 1, none⟩ q).setCell ⟨w.heap.size, 2, none⟩ (.slice a m c)) w.heap.size p q (.slice a m c) := setB3 hz.c0 hz.c1 hz.c2
  by_cases h : 0 < m
  · obtain ⟨e, hr1⟩ := hr h
    refine ⟨g, hb2, hbx, by omega, by omega, fun _ => ⟨e, ?_⟩⟩
    have hr2 : RV W1 w.heap.size g (m * 2) u := ⟨by have := hr1.lo; omega, hr1.c, hr1.f⟩
    exact ((hr2.off (by omega)).off (by omega)).off (by omega)
  · exact ⟨w.heap.size + 1, hb2, hbx, by omega, by omega, fun h0 => absurd h0 h⟩

set_option maxHeartbeats 4000000 in
set_option maxRecDepth 100000 in
theorem tlooks_any (ao bo po : Option Addr) (la ca lb cb lp cp : Nat) (k : Int) (f g p : Nat → Int) (w : World) (ht : Tab w) (hp : PRow w ao la f) (hf : Nums f) (hq : PRow w bo lb g) (hg : Nums g) (k0 : -9223372036854775808 ≤ k) (k1 : k ≤ 9223372036854775807) (hi : IRowP w po lp p) (hpr : ∀ j, -9223372036854775808 ≤ p j ∧ p j ≤ 9223372036854775807) (hlc : lp ≤ cp) (hcm : lp ≤ maxLen) :
    Calls Tryz.prog 4 #[.slice ao la ca, .slice bo lb cb, .int .i64 k, .slice po lp cp] w fun e w' => e = .returned (.bool true) ∧ Below w.heap.size w w' := by
  obtain ⟨r, hr⟩ : ∃ r : Nat, k % 3 = (r : Int) := ⟨(k % 3).toNat, by omega⟩
  have r3 : r ≤ 2 := by omega
  obtain ⟨n, hn⟩ : ∃ n, n = 1 + r := ⟨_, rfl⟩
  have n1 : 1 ≤ n := by omega
  have n4 : n ≤ 3 := by omega
  obtain ⟨H, hH⟩ : ∃ H, hfQ n 0 = H := ⟨_, rfl⟩
  have hN : 2 * H = 2 ^ n := by rw [← hH]; exact hfQ_all (by omega)
  have hH1 : 1 ≤ H := by rw [← hH]; exact hfQ_pos n 0
  have hHr : H = 2 ^ r := by rw [← hH, hn]; unfold hfQ; rw [show 1 + r - 1 - 0 = r from by omega]
  have hH2 : H ≤ 256 := by rw [← hH]; exact hfQ_le (by omega)
  obtain ⟨m, hm⟩ : ∃ m, min 6 lp = m := ⟨_, rfl⟩
  have m8 : m ≤ 6 := by omega
  have mlp : m ≤ lp := by omega
  have hmi : min (6 : Int) (lp : Int) = (m : Int) := by omega
  obtain ⟨pl, hpl⟩ : ∃ pl : Nat → Nat, pl = fun j => (p j % (H : Int)).toNat := ⟨_, rfl⟩
  have HPL : Hid (∀ j, p j % (H : Int) = ((pl j : Nat) : Int) ∧ pl j < H) := hid (fun j => by
    have h1 := Int.emod_nonneg (p j) (show (H : Int) ≠ 0 by omega)
    have h2 := Int.emod_lt_of_pos (p j) (show (0 : Int) < H by omega)
    rw [hpl]; dsimp only; omega)
  have HSH : Hid (wrap64 (2 * 2 ^ r) = ((2 * H : Nat) : Int)) := hid (by rw [show (2 : Int) * 2 ^ r = ((2 * H : Nat) : Int) from by rw [hHr]; simp]; exact IntWalk.wrap64_in _ (by omega))
  clear hHr
  have HOD := hid (said_any w ht)
  have HR4 := hid (fun W => (by have := rest_any k 3 W k0 k1 (by omega) (by omega); rw [hr] at this; exact this : Calls Tryz.prog 9 #[.int .i64 k, .int .i64 3] W fun e w' => e = .returned (.int .i64 (r : Int)) ∧ w' = W))
  have HTA := hid (fun W (h : PRow W ao la f) => sized_any ao la ca (2 * H) f W (by omega) h)
  have HVA := hid (fun b W => rvars_ok (some ⟨b, 0, none⟩) n (2 * H) (2 * H) W (by omega) hN)
  have HPO := hid (fun W (h : PRow W bo lb g) => sized_any bo lb cb n g W (by omega) h)
  have HNW := hid (fun W => new_any 3 W (by omega) (by omega))
  have HRE := hid (fun j W => (by have := rest_any (p j) (H : Int) W (hpr j).1 (hpr j).2 (by omega) (by omega); rw [(HPL.out j).1] at this; exact this : Calls Tryz.prog 9 #[.int .i64 (p j), .int .i64 (H : Int)] W fun e w' => e = .returned (.int .i64 ((pl j : Nat) : Int)) ∧ w' = W))
  have hvf := Nums_pad hf la
  have hvg := Nums_pad hg lb
  obtain ⟨F, hF⟩ : ∃ F, padF la f = F := ⟨_, rfl⟩
  obtain ⟨G, hG⟩ : ∃ G, padF lb g = G := ⟨_, rfl⟩
  rw [hF] at hvf HTA
  rw [hG] at hvg HPO
  have HRO := hid (fun b W (h : Row W b 0 (2 * H) F) (hT : Tab W) => troot_any n (2 * H) b 0 (2 * H) F W (by omega) hN hT h hvf)
  have HOP := hid (fun tb qb (apl : Option Addr) (cpl : Nat) W (h : Row W tb 0 (2 * H) F) (hT : Tab W) (hpq : PRow W (some ⟨qb, 0, none⟩) n G) (hii : IRowP W apl m fun j => (pl j : Int)) => open_ok n (2 * H) tb 0 (2 * H) n m cpl (some ⟨qb, 0, none⟩) apl F G pl W n1 (by omega) hN hT h hvf hpq hvg hii (plOk_of (by omega) (fun j _ => by rw [hH]; exact (HPL.out j).2)))
  have HLK := hid (fun qb (apl : Option Addr) (cpl lb rb : Nat) mm W (hpq : PRow W (some ⟨qb, 0, none⟩) n G) (hii : IRowP W apl m fun j => (pl j : Int)) (hR : Row W rb 0 n (oR F G n)) (ho : OpRow W (some ⟨lb, 0, none⟩) (rightO F G n m pl) mm) => look_right n m n cpl lb rb (some ⟨qb, 0, none⟩) apl (rootQ n F) F G pl mm W n1 (by omega) (by omega) (fun j _ => by rw [hH]; exact (HPL.out j).2) rfl hpq hvg hii hR ho)
  have HLB := hid (fun qb (apl al : Option Addr) (cpl cl rb : Nat) mm W (hpq : PRow W (some ⟨qb, 0, none⟩) n G) (hii : IRowP W apl m fun j => ((fun j => pl (m - 1 - j)) j : Nat)) (hR : Row W rb 0 n (oR F G n)) (ho : OpRow W al (rightO F G n m fun j => pl (m - 1 - j)) mm) => look_held n m n cpl cl rb (some ⟨qb, 0, none⟩) apl al (rootQ n F) F G (fun j => pl (m - 1 - j)) mm W n1 (by omega) (by omega) (fun j _ => by rw [hH]; exact (HPL.out _).2) rfl hpq hvg hii hR ho)
  have hrt := rootQ_rng n F
  obtain ⟨root, hroot⟩ : ∃ x, rootQ n F = x := ⟨_, rfl⟩
  rw [hroot] at HRO HLK HLB hrt
  obtain ⟨vv, hvv⟩ : ∃ x, fdQ F G n n 0 = x := ⟨_, rfl⟩
  rw [hvv] at HOP HLK HLB
  have HT := hid ht
  have HP := hid hp
  have HQ := hid hq
  have HI := hid hi
  obtain ⟨i0, hi0, hz0, hz1, hz2⟩ := info_parts Tryz.infoJ
  have HIN := hid (And.intro hi0 (And.intro hz0 (And.intro hz1 hz2)))
  have HN := hid hN
  have u0 : (0 : Int) ≤ (m : Int) := by omega
  have u1 : (m : Int) ≤ (cp : Int) := by omega
  clear hN hn hr hm hpl hH hroot hvv hF hG hp hq hi hf hg hvf hvg hpr hi0 hz0 hz1 hz2 ht k0 k1
  go_enter Tryz.func4, Tryz.ntmps4
  go_wp2_with fail
  refine (HOD.out).mono ?_
  rintro e w1 ⟨rfl, hb⟩
  have HB := hid hb
  clear hb HOD
  go_wp2_with fail
  refine (HNW.out _).mono ?_
  rintro e w0 ⟨rfl, hb, _⟩
  replace HB := hid (HB.out.trans (hb.mono HB.out.size))
  clear hb HNW
  go_wp2_with fail
  refine (HR4.out _).mono ?_
  rintro e w2 ⟨rfl, hw⟩
  obtain rfl := hw.symm
  go_wp2_with fail
  rw [HSH.out]
  refine (HTA.out _ (HP.out.kept HB.out)).mono ?_
  rintro e w3 ⟨rfl, hm⟩
  have HM : Hid (Row w3 w0.heap.size 0 (2 * H) F) := hid hm.row
  replace HB := hid (HB.out.trans (hm.below.mono HB.out.size))
  obtain ⟨tb, htb⟩ : ∃ x, w0.heap.size = x := ⟨_, rfl⟩
  rw [htb] at HM ⊢
  clear hm htb
  go_wp2_with fail
  refine (HVA.out _ _).mono ?_
  rintro e w4 ⟨rfl, hw⟩
  obtain rfl := hw.symm
  go_wp2_with fail
  refine (HPO.out _ (HQ.out.kept HB.out)).mono ?_
  rintro e w5 ⟨rfl, hm⟩
  replace HM := hid (HM.out.kept hm.below (HM.out.lt (by omega)))
  have HG : Hid (Row w5 w3.heap.size 0 n G) := hid hm.row
  replace HB := hid (HB.out.trans (hm.below.mono HB.out.size))
  obtain ⟨qb, hqb⟩ : ∃ x, w3.heap.size = x := ⟨_, rfl⟩
  rw [hqb] at HG ⊢
  clear hm hqb
  go_wp2_with fail
  case inl hm8 =>
    have e : m = lp := by omega
    subst e
    obtain ⟨E, hE⟩ : ∃ E, w5.heap.size = E := ⟨_, rfl⟩
    have HE := hid hE
    clear hE
    go_loopg [11, 45] m (fun q x12 x41 wr => ∃ (t : Nat) (v : Value), t ≤ m ∧ q = m - t ∧ x12 = v ∧ x41 = .int .i64 (t : Int) ∧ Hid (wr.ownsRow E 3 1 v t (plV pl t)) ∧ Hid (Below E w5 wr))
    case atStart => exact ⟨0, _, by omega, rfl, rfl, rfl, hid (World.ownsRow_nil w5 E 3 1), hid (Below.refl _ _)⟩
    case round =>
      obtain ⟨t, v, htm, rfl, rfl, rfl, HO, HW⟩ := hrel
      by_cases hlt : t < m
      · have hWw : Below w.heap.size w wr := HB.out.trans (HW.out.mono (by have := HE.out; have := HB.out.size; omega))
        obtain ⟨bp, op, rfl, hpr⟩ := (HI.out.kept hWw) (by omega)
        have c1 := hpr t (by omega)
        have HRT := hid (HRE.out t)
        have hq := HPL.out t
        obtain ⟨q, hqq⟩ : ∃ q, pl t = q := ⟨_, rfl⟩
        have HQQ := hid hqq
        rw [hqq] at HRT hq
        generalize p t = pt at c1 HRT hq
        have hqH := hq.2
        have hs := HW.out.size
        rw [HE.out] at hs
        have t0 : (0 : Int) ≤ (t : Int) := by omega
        have t1 : (t : Int) < (m : Int) := by omega
        clear hpr hWw hqq hq
        go_wp2_with (first | (go_at_call 9; refine (HRT.out _).mono ?_; rintro e w2 ⟨rfl, hw⟩; obtain rfl := hw.symm) | (at_builtin; refine wpList_append_lies _ rfl _ _ 45 rfl E 3 i0 (.int .i64 0) 1 8 Tryz.underlying45 HIN.out.1 HIN.out.2.1 HIN.out.2.2.1 HIN.out.2.2.2 rfl (by decide) _ t (plV pl t) rfl (World.ownsRow.alloc HO.out _) ⟨wr.heap.size, 0, none⟩ 1 1 [.int .i64 (q : Int)] rfl rfl (inews wr _ _) (ione _) (by omega) (by unfold maxLen; omega) (by omega) (by simp; omega) (wr.heap.size + 1) (by simp) ?_))
        intro g6 c6 w6 hown6 hgrow6 hat6 hlt6
        have HN6 := hid (pl_next HW.out (by rw [HE.out]; exact Nat.le_refl _) HO.out HQQ.out hown6 hgrow6)
        clear hown6 hgrow6 hat6 hlt6
        go_wp2_with fail
        go_roundg (m - (t + 1))
        case measure => go_light; omega
        case rel => exact ⟨t + 1, _, by omega, rfl, rfl, by go_num, hid HN6.out.1, hid HN6.out.2⟩
      · have e : m = t := by omega
        subst e
        obtain ⟨al, cl, rfl, hcl, hil⟩ := pl_own HO.out
        replace HB := hid (HB.out.trans (HW.out.mono (by have := HE.out; have := HB.out.size; omega)))
        have HM2 := hid (HM.out.kept HW.out (by rw [← HE.out]; exact HM.out.lt (by omega)))
        have HG2 := hid (HG.out.kept HW.out (by rw [← HE.out]; exact HG.out.lt (by omega)))
        have HI2 := hid hil
        clear HO hil HM HG HW
        go_wp2_with fail
        refine (HRO.out _ _ HM2.out (HT.out.kept HB.out HT.out.1)).mono ?_
        rintro e w6 ⟨rfl, hb⟩
        replace HM2 := hid (HM2.out.kept hb (HM2.out.lt (by omega)))
        replace HG2 := hid (HG2.out.kept hb (HG2.out.lt (by omega)))
        replace HI2 := hid (HI2.out.kept hb)
        replace HB := hid (HB.out.trans (hb.mono HB.out.size))
        clear hb
        go_wp2_with fail
        refine (HOP.out _ _ _ _ _ HM2.out (HT.out.kept HB.out HT.out.1) (PRow.of HG2.out) HI2.out).mono ?_
        rintro e w7 ⟨rb, lb', mm, rfl, hrow, hop, hb⟩
        have b0 := bel_new w7 (.cells #[.slice (some ⟨rb, 0, none⟩) n n, .int .u64 vv, .slice (some ⟨lb', 0, none⟩) m m] 42)
        have HX := hid (Bx3.new w7 (.slice (some ⟨rb, 0, none⟩) n n) (.int .u64 vv) (.slice (some ⟨lb', 0, none⟩) m m) 42)
        have hbb := hb.trans (b0.mono hb.size)
        replace HM2 := hid (HM2.out.kept hbb (HM2.out.lt (by omega)))
        replace HG2 := hid (HG2.out.kept hbb (HG2.out.lt (by omega)))
        replace HI2 := hid (HI2.out.kept hbb)
        replace HB := hid (HB.out.trans (hbb.mono HB.out.size))
        have HR3 := hid (hrow.kept b0 (hrow.lt (by omega)))
        have HO3 := hid (hop.kept b0)
        clear b0 hbb hb hrow hop
        go_wp2_with fail
        obtain ⟨XX, hXX⟩ : ∃ XX, w7.heap.size = XX := ⟨_, rfl⟩
        rw [hXX] at HX ⊢
        generalize w7.alloc (.cells #[.slice (some ⟨rb, 0, none⟩) n n, .int .u64 vv, .slice (some ⟨lb', 0, none⟩) m m] 42) = W7 at HX HB HM2 HG2 HI2 HR3 HO3 ⊢
        clear hXX
        refine (cloneI_any _ m _ (fun j => ((pl j : Nat) : Int)) W7 (by omega) HI2.out).mono ?_
        rintro e w8 ⟨a8, g8, c8, rfl, hg8, hrv, hb⟩
        have HB8 := hid hb
        have HG8 := hid hg8
        have HRV := hid hrv
        clear hb hrv HM2 hg8
        go_wp2_with fail
        refine (revI_any a8 g8 m c8 W7.heap.size (fun j => ((pl j : Nat) : Int)) w8 (by omega) HRV.out).mono ?_
        rintro e w9 ⟨rfl, hrv, hbut⟩
        have hb : Below W7.heap.size W7 w9 := HB8.out.trans (hbut.below (fun k hk => by rw [show k = g8 from hk]; exact HG8.out) HB8.out.size)
        replace HG2 := hid (HG2.out.kept hb (HG2.out.lt (by omega)))
        replace HI2 := hid (HI2.out.kept hb)
        replace HB := hid (HB.out.trans (hb.mono HB.out.size))
        replace HR3 := hid (HR3.out.kept hb (HR3.out.lt (by omega)))
        replace HO3 := hid (HO3.out.kept hb)
        replace HX := hid (HX.out.kept hb)
        have HIB := hid (irow_turned (fun h0 => (HRV.out h0).1) hrv)
        clear hb hrv hbut HRV HB8 HG8
        have x0 := HX.out.c0
        have x1 := HX.out.c1
        have x2 := HX.out.c2
        have nc9 : Th3 XX (.slice (some ⟨rb, 0, none⟩) n n) (.int .u64 vv) (.slice (some ⟨lb', 0, none⟩) m m) w9 := ⟨x0, x1, x2⟩
        have hXl : XX < w9.heap.size := World.block_lt_of_cell? w9 _ x0
        have HCL := hid (fun W (hb : Below w9.heap.size w9 W) => cloneL_any lb' m m (lkA mm n) (lkB mm n) W (by omega) (fun i _ => ⟨rfl, rfl⟩) (op_cells (HO3.out.kept hb)))
        go_wp2_with fail
        go_cut [19] (fun a19 wx => ∃ Y g c a', a19 = .pointer (some ⟨Y, 0, none⟩) ∧ Hid (TurnS w9 wx Y g a' (.slice (some ⟨rb, 0, none⟩) n n) (.int .u64 vv) m c (lkV (lkA mm n) (lkB mm n))))
        case first =>
          go_region_held3 (fun W => W.cell? ⟨XX, 0, none⟩ = some (.slice (some ⟨rb, 0, none⟩) n n) ∧ W.cell? ⟨XX, 1, none⟩ = some (.int .u64 vv) ∧ W.cell? ⟨XX, 2, none⟩ = some (.slice (some ⟨lb', 0, none⟩) m m)) (first | assumption | exact nc9 | exact nc10 | exact nc9.kept (bel_new _ _) | exact (nc9.kept (bel_new _ _)).kept (Below.refl _ _).drew | exact ((nc10.set (by omega)).set (by omega)).set (by omega) | exact nc10.kept (bel_new _ _)) (first
            | (go_at_call 33; refine (HCL.out _ (by with_reducible exact (Below.refl _ w9).drew)).mono ?_; rintro e w10 ⟨a', g, c, rfl, hg, hrv, hb⟩; have HRW := hid hrv; clear hrv; have nc10 := (nc9.kept (Below.refl _ w9).drew).kept hb)
            | (go_at_call 33; refine (HCL.out _ (by with_reducible exact (bel_new w9 _).drew)).mono ?_; rintro e w10 ⟨a', g, c, rfl, hg, hrv, hb⟩; have HRW := hid hrv; clear hrv; have nc10 := (nc9.kept (bel_new w9 _).drew).kept hb; have zx := ((Zero3.new w9 (.slice none 0 0) (.int .u64 0) (.slice none 0 0) 42).dr).kept hb; have y0 := zx.c.c0; have y1 := zx.c.c1; have y2 := zx.c.c2; have k0 := zx.f 0 (by omega); have k1 := zx.f 1 (by omega); have k2 := zx.f 2 (by omega)))
          all_goals (go_wp2_with fail)
          all_goals go_meet
          all_goals first
            | (obtain ⟨g', hg'⟩ := turn_new (p := .slice (some ⟨rb, 0, none⟩) n n) (q := .int .u64 vv) (c := c) (t := 42) (w := w9) (W := w9.drew) rfl (Below.refl _ w9).drew hb hg HRW.out; exact ⟨_, g', _, _, rfl, hid hg'⟩)
            | (obtain ⟨g', hg'⟩ := turn_set (p := .slice (some ⟨rb, 0, none⟩) n n) (q := .int .u64 vv) (c := c) (w := w9) (by simp) (bel_new w9 _).drew hb hg zx.c HRW.out; exact ⟨_, g', _, _, rfl, hid hg'⟩)
        case rest =>
          obtain ⟨Y, gL, cL, aL, rfl, HTS⟩ := hcut
          clear nc9 hXl HCL x0 x1 x2
          have y2 := HTS.out.bx.c2
          go_wp2_with fail
          refine (revL_any aL gL m cL w9.heap.size (lkA mm n) (lkB mm n) _ (by omega) (fun i => ⟨⟨_, _, _, rfl⟩, ⟨_, _, _, rfl⟩⟩) HTS.out.row).mono ?_
          rintro e w11 ⟨rfl, hrv, hbut⟩
          have hb : Below w9.heap.size w9 w11 := HTS.out.bel.trans (hbut.below (fun k hk => by rw [show k = gL from hk]; exact HTS.out.lo) HTS.out.bel.size)
          replace HG2 := hid (HG2.out.kept hb (HG2.out.lt (by omega)))
          replace HI2 := hid (HI2.out.kept hb)
          replace HIB := hid (HIB.out.kept hb)
          replace HB := hid (HB.out.trans (hb.mono HB.out.size))
          replace HR3 := hid (HR3.out.kept hb (HR3.out.lt (by omega)))
          replace HO3 := hid (HO3.out.kept hb)
          replace HX := hid (HX.out.kept hb)
          have HY : Hid (Bx3 w11 Y (.slice (some ⟨rb, 0, none⟩) n n) (.int .u64 vv) (.slice aL m cL)) := hid ⟨hbut.cell HTS.out.bx.c0 HTS.out.ne, hbut.cell HTS.out.bx.c1 HTS.out.ne, hbut.cell HTS.out.bx.c2 HTS.out.ne⟩
          have HOT := hid (op_turned HO3.out (fun h0 => (HTS.out.row h0).1) hrv)
          clear hb hrv hbut HTS y2
          have x0 := HX.out.c0
          have x1 := HX.out.c1
          have x2 := HX.out.c2
          go_wp2_with fail
          refine (HLK.out _ _ _ _ _ _ _ (PRow.of HG2.out) HI2.out HR3.out HO3.out).mono ?_
          rintro e w12 ⟨rfl, hb⟩
          clear x0 x1 x2 HX HLK HI2
          replace HG2 := hid (HG2.out.kept hb (HG2.out.lt (by omega)))
          replace HIB := hid (HIB.out.kept hb)
          replace HB := hid (HB.out.trans (hb.mono HB.out.size))
          replace HR3 := hid (HR3.out.kept hb (HR3.out.lt (by omega)))
          replace HOT := hid (HOT.out.kept hb)
          replace HY := hid (HY.out.kept hb)
          clear hb
          have y0 := HY.out.c0
          have y1 := HY.out.c1
          have y2 := HY.out.c2
          go_wp2_with fail
          refine (HLB.out _ _ _ _ _ _ _ _ (PRow.of HG2.out) HIB.out HR3.out HOT.out).mono ?_
          rintro e w13 ⟨rfl, hb⟩
          replace HB := hid (HB.out.trans (hb.mono HB.out.size))
          clear hb y0 y1 y2 HY HLB
          go_wp2_with fail
          go_ret
          exact ⟨rfl, HB.out⟩
  case inr hm8 =>
    have e : 6 = m := by omega
    subst e
    obtain ⟨E, hE⟩ : ∃ E, w5.heap.size = E := ⟨_, rfl⟩
    have HE := hid hE
    clear hE
    go_loopg [11, 45] 6 (fun q x12 x41 wr => ∃ (t : Nat) (v : Value), t ≤ 6 ∧ q = 6 - t ∧ x12 = v ∧ x41 = .int .i64 (t : Int) ∧ Hid (wr.ownsRow E 3 1 v t (plV pl t)) ∧ Hid (Below E w5 wr))
    case atStart => exact ⟨0, _, by omega, rfl, rfl, rfl, hid (World.ownsRow_nil w5 E 3 1), hid (Below.refl _ _)⟩
    case round =>
      obtain ⟨t, v, htm, rfl, rfl, rfl, HO, HW⟩ := hrel
      by_cases hlt : t < 6
      · have hWw : Below w.heap.size w wr := HB.out.trans (HW.out.mono (by have := HE.out; have := HB.out.size; omega))
        obtain ⟨bp, op, rfl, hpr⟩ := (HI.out.kept hWw) (by omega)
        have c1 := hpr t (by omega)
        have HRT := hid (HRE.out t)
        have hq := HPL.out t
        obtain ⟨q, hqq⟩ : ∃ q, pl t = q := ⟨_, rfl⟩
        have HQQ := hid hqq
        rw [hqq] at HRT hq
        generalize p t = pt at c1 HRT hq
        have hqH := hq.2
        have hs := HW.out.size
        rw [HE.out] at hs
        have t0 : (0 : Int) ≤ (t : Int) := by omega
        have t1 : (t : Int) < (6 : Int) := by omega
        clear hpr hWw hqq hq
        go_wp2_with (first | (go_at_call 9; refine (HRT.out _).mono ?_; rintro e w2 ⟨rfl, hw⟩; obtain rfl := hw.symm) | (at_builtin; refine wpList_append_lies _ rfl _ _ 45 rfl E 3 i0 (.int .i64 0) 1 8 Tryz.underlying45 HIN.out.1 HIN.out.2.1 HIN.out.2.2.1 HIN.out.2.2.2 rfl (by decide) _ t (plV pl t) rfl (World.ownsRow.alloc HO.out _) ⟨wr.heap.size, 0, none⟩ 1 1 [.int .i64 (q : Int)] rfl rfl (inews wr _ _) (ione _) (by omega) (by unfold maxLen; omega) (by omega) (by simp; omega) (wr.heap.size + 1) (by simp) ?_))
        intro g6 c6 w6 hown6 hgrow6 hat6 hlt6
        have HN6 := hid (pl_next HW.out (by rw [HE.out]; exact Nat.le_refl _) HO.out HQQ.out hown6 hgrow6)
        clear hown6 hgrow6 hat6 hlt6
        go_wp2_with fail
        go_roundg (6 - (t + 1))
        case measure => go_light; omega
        case rel => exact ⟨t + 1, _, by omega, rfl, rfl, by go_num, hid HN6.out.1, hid HN6.out.2⟩
      · have e : 6 = t := by omega
        subst e
        obtain ⟨al, cl, rfl, hcl, hil⟩ := pl_own HO.out
        replace HB := hid (HB.out.trans (HW.out.mono (by have := HE.out; have := HB.out.size; omega)))
        have HM2 := hid (HM.out.kept HW.out (by rw [← HE.out]; exact HM.out.lt (by omega)))
        have HG2 := hid (HG.out.kept HW.out (by rw [← HE.out]; exact HG.out.lt (by omega)))
        have HI2 := hid hil
        clear HO hil HM HG HW
        go_wp2_with fail
        refine (HRO.out _ _ HM2.out (HT.out.kept HB.out HT.out.1)).mono ?_
        rintro e w6 ⟨rfl, hb⟩
        replace HM2 := hid (HM2.out.kept hb (HM2.out.lt (by omega)))
        replace HG2 := hid (HG2.out.kept hb (HG2.out.lt (by omega)))
        replace HI2 := hid (HI2.out.kept hb)
        replace HB := hid (HB.out.trans (hb.mono HB.out.size))
        clear hb
        go_wp2_with fail
        refine (HOP.out _ _ _ _ _ HM2.out (HT.out.kept HB.out HT.out.1) (PRow.of HG2.out) HI2.out).mono ?_
        rintro e w7 ⟨rb, lb', mm, rfl, hrow, hop, hb⟩
        have b0 := bel_new w7 (.cells #[.slice (some ⟨rb, 0, none⟩) n n, .int .u64 vv, .slice (some ⟨lb', 0, none⟩) 6 6] 42)
        have HX := hid (Bx3.new w7 (.slice (some ⟨rb, 0, none⟩) n n) (.int .u64 vv) (.slice (some ⟨lb', 0, none⟩) 6 6) 42)
        have hbb := hb.trans (b0.mono hb.size)
        replace HM2 := hid (HM2.out.kept hbb (HM2.out.lt (by omega)))
        replace HG2 := hid (HG2.out.kept hbb (HG2.out.lt (by omega)))
        replace HI2 := hid (HI2.out.kept hbb)
        replace HB := hid (HB.out.trans (hbb.mono HB.out.size))
        have HR3 := hid (hrow.kept b0 (hrow.lt (by omega)))
        have HO3 := hid (hop.kept b0)
        clear b0 hbb hb hrow hop
        go_wp2_with fail
        obtain ⟨XX, hXX⟩ : ∃ XX, w7.heap.size = XX := ⟨_, rfl⟩
        rw [hXX] at HX ⊢
        generalize w7.alloc (.cells #[.slice (some ⟨rb, 0, none⟩) n n, .int .u64 vv, .slice (some ⟨lb', 0, none⟩) 6 6] 42) = W7 at HX HB HM2 HG2 HI2 HR3 HO3 ⊢
        clear hXX
        refine (cloneI_any _ 6 _ (fun j => ((pl j : Nat) : Int)) W7 (by omega) HI2.out).mono ?_
        rintro e w8 ⟨a8, g8, c8, rfl, hg8, hrv, hb⟩
        have HB8 := hid hb
        have HG8 := hid hg8
        have HRV := hid hrv
        clear hb hrv HM2 hg8
        go_wp2_with fail
        refine (revI_any a8 g8 6 c8 W7.heap.size (fun j => ((pl j : Nat) : Int)) w8 (by omega) HRV.out).mono ?_
        rintro e w9 ⟨rfl, hrv, hbut⟩
        have hb : Below W7.heap.size W7 w9 := HB8.out.trans (hbut.below (fun k hk => by rw [show k = g8 from hk]; exact HG8.out) HB8.out.size)
        replace HG2 := hid (HG2.out.kept hb (HG2.out.lt (by omega)))
        replace HI2 := hid (HI2.out.kept hb)
        replace HB := hid (HB.out.trans (hb.mono HB.out.size))
        replace HR3 := hid (HR3.out.kept hb (HR3.out.lt (by omega)))
        replace HO3 := hid (HO3.out.kept hb)
        replace HX := hid (HX.out.kept hb)
        have HIB := hid (irow_turned (fun h0 => (HRV.out h0).1) hrv)
        clear hb hrv hbut HRV HB8 HG8
        have x0 := HX.out.c0
        have x1 := HX.out.c1
        have x2 := HX.out.c2
        have nc9 : Th3 XX (.slice (some ⟨rb, 0, none⟩) n n) (.int .u64 vv) (.slice (some ⟨lb', 0, none⟩) 6 6) w9 := ⟨x0, x1, x2⟩
        have hXl : XX < w9.heap.size := World.block_lt_of_cell? w9 _ x0
        have HCL := hid (fun W (hb : Below w9.heap.size w9 W) => cloneL_any lb' 6 6 (lkA mm n) (lkB mm n) W (by omega) (fun i _ => ⟨rfl, rfl⟩) (op_cells (HO3.out.kept hb)))
        go_wp2_with fail
        go_cut [19] (fun a19 wx => ∃ Y g c a', a19 = .pointer (some ⟨Y, 0, none⟩) ∧ Hid (TurnS w9 wx Y g a' (.slice (some ⟨rb, 0, none⟩) n n) (.int .u64 vv) 6 c (lkV (lkA mm n) (lkB mm n))))
        case first =>
          go_region_held3 (fun W => W.cell? ⟨XX, 0, none⟩ = some (.slice (some ⟨rb, 0, none⟩) n n) ∧ W.cell? ⟨XX, 1, none⟩ = some (.int .u64 vv) ∧ W.cell? ⟨XX, 2, none⟩ = some (.slice (some ⟨lb', 0, none⟩) 6 6)) (first | assumption | exact nc9 | exact nc10 | exact nc9.kept (bel_new _ _) | exact (nc9.kept (bel_new _ _)).kept (Below.refl _ _).drew | exact ((nc10.set (by omega)).set (by omega)).set (by omega) | exact nc10.kept (bel_new _ _)) (first
            | (go_at_call 33; refine (HCL.out _ (by with_reducible exact (Below.refl _ w9).drew)).mono ?_; rintro e w10 ⟨a', g, c, rfl, hg, hrv, hb⟩; have HRW := hid hrv; clear hrv; have nc10 := (nc9.kept (Below.refl _ w9).drew).kept hb)
            | (go_at_call 33; refine (HCL.out _ (by with_reducible exact (bel_new w9 _).drew)).mono ?_; rintro e w10 ⟨a', g, c, rfl, hg, hrv, hb⟩; have HRW := hid hrv; clear hrv; have nc10 := (nc9.kept (bel_new w9 _).drew).kept hb; have zx := ((Zero3.new w9 (.slice none 0 0) (.int .u64 0) (.slice none 0 0) 42).dr).kept hb; have y0 := zx.c.c0; have y1 := zx.c.c1; have y2 := zx.c.c2; have k0 := zx.f 0 (by omega); have k1 := zx.f 1 (by omega); have k2 := zx.f 2 (by omega)))
          all_goals (go_wp2_with fail)
          all_goals go_meet
          all_goals first
            | (obtain ⟨g', hg'⟩ := turn_new (p := .slice (some ⟨rb, 0, none⟩) n n) (q := .int .u64 vv) (c := c) (t := 42) (w := w9) (W := w9.drew) rfl (Below.refl _ w9).drew hb hg HRW.out; exact ⟨_, g', _, _, rfl, hid hg'⟩)
            | (obtain ⟨g', hg'⟩ := turn_set (p := .slice (some ⟨rb, 0, none⟩) n n) (q := .int .u64 vv) (c := c) (w := w9) (by simp) (bel_new w9 _).drew hb hg zx.c HRW.out; exact ⟨_, g', _, _, rfl, hid hg'⟩)
        case rest =>
          obtain ⟨Y, gL, cL, aL, rfl, HTS⟩ := hcut
          clear nc9 hXl HCL x0 x1 x2
          have y2 := HTS.out.bx.c2
          go_wp2_with fail
          refine (revL_any aL gL 6 cL w9.heap.size (lkA mm n) (lkB mm n) _ (by omega) (fun i => ⟨⟨_, _, _, rfl⟩, ⟨_, _, _, rfl⟩⟩) HTS.out.row).mono ?_
          rintro e w11 ⟨rfl, hrv, hbut⟩
          have hb : Below w9.heap.size w9 w11 := HTS.out.bel.trans (hbut.below (fun k hk => by rw [show k = gL from hk]; exact HTS.out.lo) HTS.out.bel.size)
          replace HG2 := hid (HG2.out.kept hb (HG2.out.lt (by omega)))
          replace HI2 := hid (HI2.out.kept hb)
          replace HIB := hid (HIB.out.kept hb)
          replace HB := hid (HB.out.trans (hb.mono HB.out.size))
          replace HR3 := hid (HR3.out.kept hb (HR3.out.lt (by omega)))
          replace HO3 := hid (HO3.out.kept hb)
          replace HX := hid (HX.out.kept hb)
          have HY : Hid (Bx3 w11 Y (.slice (some ⟨rb, 0, none⟩) n n) (.int .u64 vv) (.slice aL 6 cL)) := hid ⟨hbut.cell HTS.out.bx.c0 HTS.out.ne, hbut.cell HTS.out.bx.c1 HTS.out.ne, hbut.cell HTS.out.bx.c2 HTS.out.ne⟩
          have HOT := hid (op_turned HO3.out (fun h0 => (HTS.out.row h0).1) hrv)
          clear hb hrv hbut HTS y2
          have x0 := HX.out.c0
          have x1 := HX.out.c1
          have x2 := HX.out.c2
          go_wp2_with fail
          refine (HLK.out _ _ _ _ _ _ _ (PRow.of HG2.out) HI2.out HR3.out HO3.out).mono ?_
          rintro e w12 ⟨rfl, hb⟩
          clear x0 x1 x2 HX HLK HI2
          replace HG2 := hid (HG2.out.kept hb (HG2.out.lt (by omega)))
          replace HIB := hid (HIB.out.kept hb)
          replace HB := hid (HB.out.trans (hb.mono HB.out.size))
          replace HR3 := hid (HR3.out.kept hb (HR3.out.lt (by omega)))
          replace HOT := hid (HOT.out.kept hb)
          replace HY := hid (HY.out.kept hb)
          clear hb
          have y0 := HY.out.c0
          have y1 := HY.out.c1
          have y2 := HY.out.c2
          go_wp2_with fail
          refine (HLB.out _ _ _ _ _ _ _ _ (PRow.of HG2.out) HIB.out HR3.out HOT.out).mono ?_
          rintro e w13 ⟨rfl, hb⟩
          replace HB := hid (HB.out.trans (hb.mono HB.out.size))
          clear hb y0 y1 y2 HY HLB
          go_wp2_with fail
          go_ret
          exact ⟨rfl, HB.out⟩

end Go.Proofs.YtbchbmelofojkaaGreatDoor
