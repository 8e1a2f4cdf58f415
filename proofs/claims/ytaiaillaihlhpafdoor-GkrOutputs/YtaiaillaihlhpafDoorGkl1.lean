/-
  The right proof holds for just the outputs that have the circuit's value at the point that was drawn; contracts of the laws' own small and held.
-/
import Derived.Test.YtaiaillaihlhpafDoorGk11
import Derived.Test.YtaiaillaihlhpafDoorGk13
import Derived.Test.YtaiaillaihlhpafDoorRefC2
import Derived.Test.YtaiaillaihlhpafDoorTiny
import Derived.Test.YtaiaillaihlhpafDoorKeep
import Derived.Deep.RegionHeld3
namespace Go.Proofs.YtaiaillaihlhpafDoor
open Go.RowKit
set_option linter.unusedVariables false
attribute [local go_sem ↓] Go.wp_at_zero Go.wp_at_succ

theorem right_iff {c : CQ} (hc : c.right) (f D fo : Nat → Int) :
    (partsQ c).holds D (rightP c f D).told (ofK (evS (fun j => kk (fo j)) (fun j => kk (D j)) ((partsQ c).lg 0))) (fun j => kk (f j)) ↔ evS (fun j => kk (fo j)) (fun j => kk (D j)) ((partsQ c).lg 0) = evS (fun j => kk (valsQ c f c.layers.length j)) (fun j => kk (D j)) ((partsQ c).lg 0) := by
  have n1 : 0 < (partsQ c).n := List.length_pos_iff.2 hc.some
  rw [rightP_told, Parts.right_holds (partsQ c) D _ _ (parts_fits hc) (parts_run hc f) (fun j => by have := parts_lg hc j; omega) n1]
  have h1 : (partsQ c).tru (valsK c f) D 0 = evS (fun j => kk (valsQ c f c.layers.length j)) (fun j => kk (D j)) ((partsQ c).lg 0) := rfl
  have h2 : (partsQ c).tru (valsK c f) D (partsQ c).n = evS (fun j => kk (f j)) ((partsQ c).z D (partsQ c).n) ((partsQ c).lg (partsQ c).n) := by
    refine evS_congr _ (fun b _ => ?_) (fun _ _ => rfl)
    show kk (valsQ c f (c.layers.length - c.layers.length) b) = _
    rw [Nat.sub_self]
    show kk (nrm (f b)) = kk (f b)
    exact kk_nrm _
  rw [h1, h2]
  constructor
  · rintro ⟨h, _⟩
    have := congrArg kk h
    rwa [kk_ofK, kk_ofK] at this
  · intro h
    exact ⟨by rw [h], rfl⟩
/-- A list of two numbers. -/
def pr (a b : Int) (j : Nat) : Int := if j = 0 then a else b
theorem Nums_pr {a b : Int} (h0 : 0 ≤ a) (h1 : a ≤ 18446744073709551615) (h2 : 0 ≤ b) (h3 : b ≤ 18446744073709551615) : Nums (pr a b) := fun j => by
  unfold pr
  split <;> omega
def dr4 (j : Nat) : Int := if j = 0 then 5 else if j = 1 then 6 else if j = 2 then 7 else 8
theorem Nums_dr4 : Nums dr4 := fun j => by
  unfold dr4
  repeat' split
  all_goals omega
theorem tiny_need : needQ tinyQ = 4 := by decide
theorem tiny_lg : (partsQ tinyQ).lg 0 = 1 := by decide
theorem tiny_ends : endsQ tinyQ 2 2 := by unfold endsQ; decide
theorem ev_one (f g : Nat → K) : evS f g 1 = f 0 + g 0 * (f 1 - f 0) := by
  rw [show (1 : Nat) = 0 + 1 from rfl, evS_fold, evS_zero]; rfl
theorem tiny_yes : (partsQ tinyQ).holds dr4 (rightP tinyQ (pr 3 4) dr4).told (ofK (evS (fun j => kk (pr 12 7 j)) (fun j => kk (dr4 j)) ((partsQ tinyQ).lg 0))) (fun j => kk (pr 3 4 j)) := by
  rw [right_iff tiny_right, tiny_lg, ev_one, ev_one]
  kernel_rfl
theorem tiny_no : ¬ (partsQ tinyQ).holds dr4 (rightP tinyQ (pr 3 4) dr4).told (ofK (evS (fun j => kk (pr 12 8 j)) (fun j => kk (dr4 j)) ((partsQ tinyQ).lg 0))) (fun j => kk (pr 3 4 j)) := by
  rw [right_iff tiny_right, tiny_lg, ev_one, ev_one]
  intro h
  have h2 := congrArg Fin.val h
  revert h2
  decide
set_option maxHeartbeats 2000000 in
set_option maxRecDepth 100000 in
theorem small_any (c : CQ) (g : Int) (ao : Option Addr) (n cap : Nat) (A : Nat → Option Addr) (C : Nat → Nat) (w : World) (hn63 : n ≤ maxLen) (hg : c.log = g) (hn : c.layers.length = n) (hr : CRow w ao c.layers A C) :
    Calls Tryd.prog 17 #[.agg #[.int .i64 g, .slice ao n cap]] w fun e w' => ∃ r : Bool, e = .returned (.bool r) ∧ (r = true → c.right) ∧ Below w.heap.size w w' := by
  have HS0 := hid (StW.start w g (.slice ao n cap) 24)
  have HC := hid (fun W (h : Below w.heap.size w W) => rcirc_any c g ao n cap A C W hg hn (hr.kept h))
  have HR := hid hr
  have HN := hid hn
  have n63 : (n : Int) ≤ 9223372036854775807 := by have : maxLen ≤ 9223372036854775807 := by decide
                                                   omega
  clear hg hn hr hn63
  go_enter Tryd.func17, Tryd.ntmps17
  go_wp2_with fail
  obtain ⟨B, hB⟩ : ∃ B, w.heap.size = B := ⟨_, rfl⟩
  rw [hB] at HS0
  rw [hB]
  clear hB
  generalize w.alloc (.cells #[.int .i64 g, .slice ao n cap] 24) = W1 at HS0 ⊢
  go_loopg [8] n (fun q i wr => ∃ t : Nat, t ≤ n ∧ q = n - t ∧ i = .int .i64 (t : Int) ∧ Hid (StW w wr B g (.slice ao n cap)))
  case atStart => exact ⟨0, by omega, rfl, rfl, HS0⟩
  case round =>
    clear HS0
    obtain ⟨t, htn, rfl, rfl, HS⟩ := hrel
    by_cases htl : t < n
    · obtain ⟨l, hl⟩ : ∃ l, c.layers[t]? = some l := ⟨c.layers[t]'(by rw [HN.out]; exact htl), by simp⟩
      obtain ⟨b, off, rfl, hcc⟩ := HR.out.kept HS.out.bel (by intro e; have := HN.out; rw [e] at this; simp at this; omega)
      obtain ⟨x0, x1, _, _⟩ := hcc t l hl
      rw [Nat.mul_comm 2 t] at x0 x1
      obtain ⟨lg, hlg⟩ : ∃ x, l.log = x := ⟨_, rfl⟩
      rw [hlg] at x0
      have t0 : (0 : Int) ≤ (t : Int) := by omega
      have t1 : (t : Int) < (n : Int) := by omega
      have HAL := hid (fun v => HS.out.next ((Below.refl wr.heap.size wr).alloc (Nat.le_refl _) (.cells #[.int .i64 lg, v] 39)))
      clear hcc hl hlg
      by_cases h2 : (2 : Int) < lg
      · go_wp2_with fail
        go_ret
        exact ⟨false, rfl, fun h => absurd h Bool.false_ne_true, (HAL.out _).bel⟩
      · go_wp2_with fail
        go_roundg (n - (t + 1))
        case measure => go_light; omega
        case rel => exact ⟨t + 1, by omega, rfl, by go_num, hid (HAL.out _)⟩
    · have t1 : ¬ ((t : Int) < (n : Int)) := by omega
      obtain ⟨z0, z1, zl⟩ := HS.out.box
      go_wp2_with fail
      refine (HC.out _ HS.out.bel).mono ?_
      rintro e w1 ⟨y, rfl, hy, hb⟩
      have HS1 := hid (HS.out.next hb)
      have HY := hid hy
      clear hb hy z0 z1 zl HS
      obtain ⟨z0, z1, zl⟩ := HS1.out.box
      by_cases hy0 : y = 0
      · subst hy0
        have HRT := hid (checkE_zero.1 HY.out)
        go_wp2_with fail
        go_ret
        exact ⟨_, rfl, fun _ => HRT.out, HS1.out.bel⟩
      · have e1 : (y == 0) = false := beq_eq_false_iff_ne.2 hy0
        go_wp2_with fail
        go_ret
        exact ⟨false, rfl, fun h => absurd h Bool.false_ne_true, HS1.out.bel⟩
/-- Below a world that grew, step by step. -/
theorem bel_alloc {X Y : World} (o : Obj) (h : Below X.heap.size X Y) : Below X.heap.size X (Y.alloc o) := h.alloc h.size o
theorem bel_trans {X Y Z : World} (hz : Below Y.heap.size Y Z) (h : Below X.heap.size X Y) : Below X.heap.size X Z := h.trans (hz.mono h.size)
theorem bel_drew {X Y : World} (h : Below X.heap.size X Y) : Below X.heap.size X Y.drew := h.drew
theorem row_pair (w : World) (x y : Int) (t : TypeId) : Row (w.alloc (.cells #[.int .u64 x, .int .u64 y] t)) w.heap.size 0 2 (pr x y) := fun j hj => by
  rw [Nat.zero_add, World.cell?_alloc_new]
  match j, hj with
  | 0, _ => rfl
  | 1, _ => rfl
theorem row_new2 {w : World} {n : Nat} {x y : Int} {t : TypeId} (h : n = w.heap.size) : Row (w.alloc (.cells #[.int .u64 x, .int .u64 y] t)) n 0 2 (pr x y) := by
  subst h
  exact row_pair w x y t
theorem row_old2 {w : World} {n : Nat} {f : Nat → Int} (o : Obj) (h : Row w n 0 2 f) : Row (w.alloc o) n 0 2 f := h.kept (bel_alloc o (Below.refl _ w)) (h.lt (by omega))
theorem row_bel2 {Y Z : World} {n : Nat} {f : Nat → Int} (hb : Below Y.heap.size Y Z) (h : Row Y n 0 2 f) : Row Z n 0 2 f := h.kept hb (h.lt (by omega))
theorem crow_old {w : World} {ao : Option Addr} {ls : List LQ} {A : Nat → Option Addr} {C : Nat → Nat} (o : Obj) (h : CRow w ao ls A C) : CRow (w.alloc o) ao ls A C := h.kept (bel_alloc o (Below.refl _ w))
theorem keep_cell {W W' : World} {a : Addr} {v : Value} (h : W.cell? a = some v) (hb : Below W.heap.size W W') : W'.cell? a = some v := (hb.cell (World.block_lt_of_cell? W _ h)).trans h
theorem row_four (w : World) (t : TypeId) : Row (w.alloc (.cells #[.int .u64 5, .int .u64 6, .int .u64 7, .int .u64 8] t)) w.heap.size 0 4 dr4 := fun j hj => by
  rw [Nat.zero_add, World.cell?_alloc_new]
  match j, hj with
  | 0, _ => rfl
  | 1, _ => rfl
  | 2, _ => rfl
  | 3, _ => rfl
set_option maxHeartbeats 8000000 in
set_option maxRecDepth 100000 in
theorem held_any (w : World) (ht : Tab w) :
    Calls Tryd.prog 16 #[] w fun e w' => e = .returned (.bool true) ∧ Below w.heap.size w w' := by
  have HT := hid ht
  clear ht
  go_enter Tryd.func16, Tryd.ntmps16
  go_wp2_with fail
  refine (tiny_any w).mono ?_
  rintro e w1 ⟨b1, A1, C1, rfl, hc1, hb1⟩
  go_wp2_with fail
  refine (draws_ok tinyQ 1 b1 0 1 1 A1 C1 w1 rfl rfl hc1 tiny_right).mono ?_
  rintro e w2 ⟨rfl, hb2⟩
  have HB2 := hid (bel_trans hb2 hb1)
  clear hc1 hb1 hb2
  go_wp2_with fail
  rw [tiny_need]
  refine (tiny_any _).mono ?_
  rintro e w3 ⟨b3, A3, C3, rfl, hc3, hb3⟩
  have HD3 : Hid (Row w3 w2.heap.size 0 4 dr4 ∧ w2.heap.size < w3.heap.size) := hid (by
    have h := (row_four w2 26).kept hb3 (by simp)
    exact ⟨h, h.lt (by omega)⟩)
  have HB3 := hid (bel_trans hb3 (bel_alloc _ HB2.out))
  have HC3 := hid hc3
  clear hc3 hb3 HB2
  obtain ⟨BD, hBD⟩ : ∃ x, w2.heap.size = x := ⟨_, rfl⟩
  rw [hBD] at HD3
  rw [hBD]
  clear hBD
  go_wp2_with fail
  have HPV : Hid (Calls Tryd.prog 19 #[.agg #[.int .i64 1, .slice (some ⟨b3, 0, none⟩) 1 1], .slice (some ⟨w3.heap.size, 0, none⟩) 2 2, .slice (some ⟨BD, 0, none⟩) 4 4] (w3.alloc (.cells #[.int .u64 3, .int .u64 4] 26)) fun e w' => proveOut tinyQ (pr 3 4) dr4 1 (w3.alloc (.cells #[.int .u64 3, .int .u64 4] 26)) e w') := hid (by
    have hal := (Below.refl w3.heap.size w3).alloc (Nat.le_refl _) (.cells #[.int .u64 3, .int .u64 4] 26)
    have hbw := bel_trans hal HB3.out
    exact pv_ok tinyQ 1 b3 0 1 1 A3 C3 w3.heap.size 0 2 2 (pr 3 4) BD 0 4 4 dr4 _ rfl rfl (HC3.out.kept hal) tiny_right (shl_pow (k := 1) (by omega)) (by decide) (row_pair w3 3 4 _) (Nums_pr (by omega) (by omega) (by omega) (by omega)) (HD3.out.1.kept hal HD3.out.2) Nums_dr4 tiny_need.symm (by omega) (by decide) (HT.out.kept hbw HT.out.1))
  refine (HPV.out).mono ?_
  rintro e w4 ⟨PB, m, rfl, hpf, hlow, hb4⟩
  have HB4 := hid (bel_trans hb4 (bel_alloc _ HB3.out))
  have HD4 : Hid (Row w4 BD 0 4 dr4 ∧ BD < w4.heap.size) := hid (by
    have hal := bel_trans hb4 ((Below.refl w3.heap.size w3).alloc (Nat.le_refl _) (.cells #[.int .u64 3, .int .u64 4] 26))
    exact ⟨HD3.out.1.kept hal HD3.out.2, Nat.lt_of_lt_of_le HD3.out.2 hal.size⟩)
  have HPF := hid hpf
  clear hpf hlow hb4 HB3 HD3 HC3 HPV
  go_wp2_with fail
  have hal := (Below.refl w4.heap.size w4).alloc (Nat.le_refl _) (.cells #[.slice (some ⟨PB, 0, none⟩) 1 1] 51)
  have HB5 := hid (bel_trans hal HB4.out)
  have HD5 : Hid (Row (w4.alloc (.cells #[.slice (some ⟨PB, 0, none⟩) 1 1] 51)) BD 0 4 dr4 ∧ BD < (w4.alloc (.cells #[.slice (some ⟨PB, 0, none⟩) 1 1] 51)).heap.size) := hid ⟨HD4.out.1.kept hal HD4.out.2, Nat.lt_of_lt_of_le HD4.out.2 hal.size⟩
  have HP5 := hid (HPF.out.kept hal)
  have HQ5 : Hid ((w4.alloc (.cells #[.slice (some ⟨PB, 0, none⟩) 1 1] 51)).cell? ⟨w4.heap.size, 0, none⟩ = some (.slice (some ⟨PB, 0, none⟩) 1 1)) := hid (by rw [World.cell?_alloc_new]; rfl)
  obtain ⟨Q, hQ⟩ : ∃ x, w4.heap.size = x := ⟨_, rfl⟩
  rw [hQ] at HQ5
  rw [hQ]
  clear hQ hal HB4 HD4 HPF
  generalize w4.alloc (.cells #[.slice (some ⟨PB, 0, none⟩) 1 1] 51) = W5 at HB5 HD5 HP5 HQ5 ⊢
  have HV : Hid (∀ (q : Int) (r : Bool) (W' : World) (x1 x2 bT : Nat) (A : Nat → Option Addr) (C : Nat → Nat), (q = 7 ∧ r = true ∨ q = 8 ∧ r = false) → CRow W' (some ⟨bT, 0, none⟩) tinyQ.layers A C → Row W' x1 0 2 (pr 3 4) → Row W' x2 0 2 (pr 12 q) → Below W5.heap.size W5 W' → Calls Tryd.prog 21 #[.agg #[.int .i64 1, .slice (some ⟨bT, 0, none⟩) 1 1], .slice (some ⟨x1, 0, none⟩) 2 2, .slice (some ⟨x2, 0, none⟩) 2 2, .agg #[.slice (some ⟨PB, 0, none⟩) 1 1], .slice (some ⟨BD, 0, none⟩) 4 4] W' fun e w'' => e = .returned (.tuple #[.bool r, .int .i64 0]) ∧ Below W5.heap.size W5 w'') := hid (fun q r W' x1 x2 bT A C hq hcr h1 h2 hb => by
    have hq2 : 0 ≤ q ∧ q ≤ 18446744073709551615 := by rcases hq with ⟨h, _⟩ | ⟨h, _⟩ <;> omega
    refine (vf_ok tinyQ 1 bT 0 1 1 A C x1 0 2 2 x2 0 2 2 (pr 3 4) (pr 12 q) (some ⟨PB, 0, none⟩) 1 1 (rightP tinyQ (pr 3 4) dr4) m BD 0 4 4 dr4 W' rfl rfl hcr tiny_right rfl (HP5.out.kept hb) (rightP_nums _ _ _) (rightP_shaped _ _ _) tiny_ends h1 (Nums_pr (by omega) (by omega) (by omega) (by omega)) h2 (Nums_pr (by omega) (by omega) hq2.1 hq2.2) (HD5.out.1.kept hb HD5.out.2) Nums_dr4 tiny_need.symm (by omega) (by decide) (HT.out.kept (bel_trans hb HB5.out) HT.out.1)).mono ?_
    rintro e w'' ⟨r', rfl, hr', hb'⟩
    refine ⟨?_, bel_trans hb' hb⟩
    rcases hq with ⟨rfl, rfl⟩ | ⟨rfl, rfl⟩
    · rw [hr'.2 tiny_yes]
    · cases r' with
      | false => rfl
      | true => exact absurd (hr'.1 rfl) tiny_no)
  have hq := HQ5.out
  have HBS := hid (Below.refl W5.heap.size W5)
  clear HD5 HP5 HQ5
  go_cut [6, 7] (fun a6 a7 wx => a6 = .bool true ∧ a7 = .int .i64 0 ∧ Hid (Below W5.heap.size W5 wx))
  case first =>
    go_region_held3 (fun W => W.cell? ⟨Q, 0, none⟩ = some (.slice (some ⟨PB, 0, none⟩) 1 1)) (first | assumption | (refine keep_cell hq ?_; repeat (first | exact HBS.out | exact hbV | apply bel_alloc | refine bel_trans hbT ?_ | apply bel_drew))) (first
      | (go_at_call 7; refine (tiny_any _).mono ?_; rintro e wT ⟨bT, AT, CT, rfl, hcT, hbT⟩)
      | (go_at_call 21; refine (HV.out 7 true _ _ _ _ AT CT (.inl ⟨rfl, rfl⟩) (by repeat (first | exact hcT | apply crow_old)) (by repeat (first | exact row_new2 (by simp) | apply row_old2 | refine row_bel2 hbT ?_)) (by repeat (first | exact row_new2 (by simp) | apply row_old2 | refine row_bel2 hbT ?_)) (by repeat (first | exact HBS.out | apply bel_alloc | refine bel_trans hbT ?_ | apply bel_drew))).mono ?_; rintro e wV ⟨rfl, hbV⟩))
    all_goals (go_wp2_with fail)
    all_goals go_meet
    all_goals exact ⟨rfl, rfl, hid hbV⟩
  case rest =>
    clear HBS
    obtain ⟨rfl, rfl, HBS⟩ := hcut
    go_wp2_with fail
    go_cut [8, 9] (fun a8 a9 wx => a8 = .bool false ∧ a9 = .int .i64 0 ∧ Hid (Below W5.heap.size W5 wx))
    case first =>
      go_region_held3 (fun W => W.cell? ⟨Q, 0, none⟩ = some (.slice (some ⟨PB, 0, none⟩) 1 1)) (first | assumption | (refine keep_cell hq ?_; repeat (first | exact HBS.out | exact hbV | apply bel_alloc | refine bel_trans hbT ?_ | apply bel_drew))) (first
        | (go_at_call 7; refine (tiny_any _).mono ?_; rintro e wT ⟨bT, AT, CT, rfl, hcT, hbT⟩)
        | (go_at_call 21; refine (HV.out 8 false _ _ _ _ AT CT (.inr ⟨rfl, rfl⟩) (by repeat (first | exact hcT | apply crow_old)) (by repeat (first | exact row_new2 (by simp) | apply row_old2 | refine row_bel2 hbT ?_)) (by repeat (first | exact row_new2 (by simp) | apply row_old2 | refine row_bel2 hbT ?_)) (by repeat (first | exact HBS.out | apply bel_alloc | refine bel_trans hbT ?_ | apply bel_drew))).mono ?_; rintro e wV ⟨rfl, hbV⟩))
      all_goals (go_wp2_with fail)
      all_goals go_meet
      all_goals exact ⟨rfl, rfl, hid hbV⟩
    case rest =>
      clear HBS
      obtain ⟨rfl, rfl, HBS⟩ := hcut
      go_wp2_with fail
      go_ret
      exact ⟨rfl, bel_trans HBS.out HB5.out⟩

end Go.Proofs.YtaiaillaihlhpafDoor
