/-
  Contracts of tallyref's Path, for every table and place; it makes new lists and writes nothing that was there.
-/
import Derived.Test.YtoogpkcpheannabDoorRefTree
import Derived.Deep.RegionHeld3
import Derived.Deep.AppendLies
namespace Go.Proofs.YtoogpkcpheannabDoor
open Go.RowKit
set_option linter.unusedVariables false
attribute [local go_sem ↓] Go.wp_at_zero Go.wp_at_succ

theorem news_one (w : World) (x : Int) (t : TypeId) : ∀ j u, [Value.int .u64 x][j]? = some u → (w.alloc (.cells #[.int .u64 x] t)).cell? ((⟨w.heap.size, 0, none⟩ : Addr).add j) = some u := by
  intro j u hj
  match j, hj with
  | 0, hj => simp at hj; subst hj; simp [Addr.add]
theorem one_cell (x : Int) : ∀ u ∈ [Value.int .u64 x], u.oneCell' = true := by intro u hu; simp at hu; subst hu; rfl
/-- One number more behind a list of the call's own. -/
theorem own_snoc {w w1 w2 : World} {v : Value} {n g c : Nat} {f F : Nat → Int} {x : Int} {t : TypeId} (hb : Below w.heap.size w w1) (ho : Own w1 w.heap.size v n f)
    (hown : w2.ownsRow w.heap.size 23 1 (.slice (some ⟨g, 0, none⟩) (n + 1) c) (n + 1) (cellsOf n f ++ [.int .u64 x])) (hg : (w1.alloc (.cells #[.int .u64 x] t)).grownBy w2 v.ownBlock)
    (hF : ∀ j, j < n → f j = F j) (hx : x = F n) : Own w2 w.heap.size (.slice (some ⟨g, 0, none⟩) (n + 1) c) (n + 1) F ∧ Below w.heap.size w w2 := by
  refine ⟨?_, (hb.alloc hb.size _).grown hg (by have := hb.size; simp; omega) (by intro t ht; exact (World.ownsRow.lt ho t ht).1)⟩
  rw [cellsOf_snoc] at hown
  exact Own.congr hown fun j hj => by
    unfold catF
    by_cases e : j < n
    · rw [if_pos e]; exact hF j e
    · rw [if_neg e, show j = n from by omega]; exact hx

set_option maxHeartbeats 4000000 in
set_option maxRecDepth 100000 in
theorem rpath_any (n : Nat) : ∀ (N b off cap i : Nat) (f : Nat → Int) (w : World), n ≤ 8 → N = 2 ^ n → N ≤ cap → Row w b off N f → Nums f → i < N →
    Calls Tryd.prog 9 #[.slice (some ⟨b, off, none⟩) N cap, .int .i64 (i : Int)] w fun e w' => ∃ v, e = .returned v ∧ Own w' w.heap.size v n (pathQ n f i) ∧ Below w.heap.size w w' := by
  induction n with
  | zero =>
    intro N b off cap i f w _ hN hc hr hv hi
    have hN1 : N = 1 := hN
    subst hN1
    clear hN hr hv
    go_enter Tryd.func9, Tryd.ntmps9
    go_wp2_with fail
    go_ret
    exact ⟨_, rfl, Own.nil _ _ _, Below.refl _ _⟩
  | succ n ih =>
    intro N b off cap i f w hn hN hc hr hv hi
    obtain ⟨h, hh⟩ : ∃ h, 2 ^ n = h := ⟨_, rfl⟩
    have hN2 : N = 2 * h := by rw [hN, two_pow_succ, hh]; omega
    have hN8 : 2 ^ n ≤ 2 ^ 7 := Nat.pow_le_pow_right (by omega) (by omega)
    rw [hh] at hN8
    have h1 : 1 ≤ h := by rw [← hh]; exact Nat.one_le_two_pow
    subst hN2
    obtain ⟨hr1, hr2⟩ := hr.half
    have hlt := hr1.lt h1
    have hcn : ¬ cap = h := by omega
    have i0 : (h : Int) ≤ (cap : Int) := by omega
    have i1 : (h : Int) ≤ 2 * (h : Int) := by omega
    have i2 : (0 : Int) ≤ (h : Int) := by omega
    have e1 : (((2 * h : Nat) : Int) == 1) = false := beq_eq_false_iff_ne.2 (by omega)
    obtain ⟨i9, hi9, hz0, hz1, hz2⟩ := info_parts Tryd.infoO
    have HI := hid (And.intro hi9 (And.intro hz0 (And.intro hz1 hz2)))
    clear hi9 hz0 hz1 hz2
    by_cases hlow : i < h
    · have HC := hid (fun (m c : Nat) (q : Int) (W : World) (hm : m = h) (hc2 : m ≤ c) (hq : q = i) (hb : Below w.heap.size w W) => (by rw [hq]; exact ih m b off c i f W (by omega) (by rw [hm, hh]) hc2 (fun j hj => (hr.kept hb hlt) j (by omega)) hv (by omega) : Calls Tryd.prog 9 #[.slice (some ⟨b, off, none⟩) m c, .int .i64 q] W fun e w' => ∃ v, e = .returned v ∧ Own w' W.heap.size v n (pathQ n f i) ∧ Below W.heap.size W w'))
      obtain ⟨x, hx⟩ : ∃ x, rootQ n (fun j => f (h + j)) = x := ⟨_, rfl⟩
      have HR := hid (fun (m c : Nat) (W : World) (hm : m = h) (hc2 : m ≤ c) (hb : Below w.heap.size w W) => (by have := rroot_any n m b (off + h) c (fun j => f (h + j)) W (by omega) (by rw [hm, hh]) hc2 (fun j hj => (hr2.kept hb hlt) j (by omega)) (Nums_part hv _); rw [hx] at this; exact this : Calls Tryd.prog 7 #[.slice (some ⟨b, off + h, none⟩) m c] W fun e w' => e = .returned (.int .u64 x) ∧ Below W.heap.size W w'))
      have HF : Hid (∀ j, j < n → pathQ n f i j = pathQ (n + 1) f i j) := hid (fun j hj => by rw [pathQ, hh, if_pos hlow, if_pos hj])
      have HX : Hid (x = pathQ (n + 1) f i n) := hid (by rw [pathQ, hh, if_pos hlow, if_neg (Nat.lt_irrefl n), hx])
      have hlw : (i : Int) < (h : Int) := by omega
      clear ih hr hv hr1 hr2 hN hh hx
      go_enter Tryd.func9, Tryd.ntmps9
      go_wp2_with fail
      go_region_held3 (fun _ => True) (trivial) (first
        | (go_at_call 9; refine (HC.out _ _ _ _ (by omega) (by omega) (by omega) (by exact (Below.refl _ w).drew)).mono ?_; rintro e w1 ⟨v, rfl, ho, hb⟩; have hb1 : Below w.heap.size w w1 := (by exact (Below.refl _ w).drew.trans hb); have HO1 : Hid (Own w1 w.heap.size v n (pathQ n f i)) := hid (by exact ho); clear ho hb)
        | (go_at_call 7; refine (HR.out _ _ _ (by omega) (by omega) (by exact hb1)).mono ?_; rintro e w2 ⟨rfl, hb⟩; have hb2 : Below w.heap.size w w2 := hb1.trans (hb.mono hb1.size); have HO2 : Hid (Own w2 w.heap.size v n (pathQ n f i)) := hid (HO1.out.kept hb); have hs2 := hb2.size; clear hb)
        | (refine step_append_lies _ (by rfl) _ _ 22 (by rfl) w.heap.size 23 i9 (.int .u64 0) 1 8 Tryd.underlying22 HI.out.1 HI.out.2.1 HI.out.2.2.1 HI.out.2.2.2 rfl (by decide) v n (cellsOf n (pathQ n f i)) (by rfl) (World.ownsRow.alloc HO2.out _) ⟨w2.heap.size, 0, none⟩ 1 1 [.int .u64 x] (by rfl) (by rfl) (news_one w2 x _) (one_cell x) (by omega) (by unfold maxLen; omega) (by omega) (by simp; omega) (w2.heap.size + 1) (by simp) ?_; intro g3 c3 w3 hown3 hgrow3 hat3 hlt3))
      all_goals (have HS := hid (own_snoc (F := pathQ (n + 1) f i) hb2 HO2.out hown3 hgrow3 HF.out HX.out); clear hown3 hgrow3 hat3)
      all_goals (go_wp2_with fail)
      all_goals go_ret
      all_goals exact ⟨_, rfl, HS.out.1, HS.out.2⟩
    · have HC := hid (fun (m c : Nat) (q : Int) (W : World) (hm : m = h) (hc2 : m ≤ c) (hq : q = (i : Int) - h) (hb : Below w.heap.size w W) => (by rw [hq, show (i : Int) - h = ((i - h : Nat) : Int) from by omega]; exact ih m b (off + h) c (i - h) (fun j => f (h + j)) W (by omega) (by rw [hm, hh]) hc2 (fun j hj => (hr2.kept hb hlt) j (by omega)) (Nums_part hv _) (by omega) : Calls Tryd.prog 9 #[.slice (some ⟨b, off + h, none⟩) m c, .int .i64 q] W fun e w' => ∃ v, e = .returned v ∧ Own w' W.heap.size v n (pathQ n (fun j => f (h + j)) (i - h)) ∧ Below W.heap.size W w'))
      obtain ⟨x, hx⟩ : ∃ x, rootQ n f = x := ⟨_, rfl⟩
      have HR := hid (fun (m c : Nat) (W : World) (hm : m = h) (hc2 : m ≤ c) (hb : Below w.heap.size w W) => (by have := rroot_any n m b off c f W (by omega) (by rw [hm, hh]) hc2 (fun j hj => (hr1.kept hb hlt) j (by omega)) hv; rw [hx] at this; exact this : Calls Tryd.prog 7 #[.slice (some ⟨b, off, none⟩) m c] W fun e w' => e = .returned (.int .u64 x) ∧ Below W.heap.size W w'))
      have HF : Hid (∀ j, j < n → pathQ n (fun j => f (h + j)) (i - h) j = pathQ (n + 1) f i j) := hid (fun j hj => by rw [pathQ, hh, if_neg hlow, if_pos hj])
      have HX : Hid (x = pathQ (n + 1) f i n) := hid (by rw [pathQ, hh, if_neg hlow, if_neg (Nat.lt_irrefl n), hx])
      have hlw : ¬ (i : Int) < (h : Int) := by omega
      have hws : IntKind.i64.wrap ((i : Int) - (h : Int)) = (i : Int) - (h : Int) := IntWalk.i64_in _ (by omega)
      clear ih hr hv hr1 hr2 hN hh hx
      go_enter Tryd.func9, Tryd.ntmps9
      go_wp2_with fail
      go_region_held3 (fun _ => True) (trivial) (first
        | (go_at_call 9; refine (HC.out _ _ _ _ (by omega) (by omega) (by omega) (by exact (Below.refl _ w).drew)).mono ?_; rintro e w1 ⟨v, rfl, ho, hb⟩; have hb1 : Below w.heap.size w w1 := (by exact (Below.refl _ w).drew.trans hb); have HO1 : Hid (Own w1 w.heap.size v n (pathQ n (fun j => f (h + j)) (i - h))) := hid (by exact ho); clear ho hb)
        | (go_at_call 7; refine (HR.out _ _ _ (by omega) (by omega) (by exact hb1)).mono ?_; rintro e w2 ⟨rfl, hb⟩; have hb2 : Below w.heap.size w w2 := hb1.trans (hb.mono hb1.size); have HO2 : Hid (Own w2 w.heap.size v n (pathQ n (fun j => f (h + j)) (i - h))) := hid (HO1.out.kept hb); have hs2 := hb2.size; clear hb)
        | (refine step_append_lies _ (by rfl) _ _ 22 (by rfl) w.heap.size 23 i9 (.int .u64 0) 1 8 Tryd.underlying22 HI.out.1 HI.out.2.1 HI.out.2.2.1 HI.out.2.2.2 rfl (by decide) v n (cellsOf n (pathQ n (fun j => f (h + j)) (i - h))) (by rfl) (World.ownsRow.alloc HO2.out _) ⟨w2.heap.size, 0, none⟩ 1 1 [.int .u64 x] (by rfl) (by rfl) (news_one w2 x _) (one_cell x) (by omega) (by unfold maxLen; omega) (by omega) (by simp; omega) (w2.heap.size + 1) (by simp) ?_; intro g3 c3 w3 hown3 hgrow3 hat3 hlt3))
      all_goals (have HS := hid (own_snoc (F := pathQ (n + 1) f i) hb2 HO2.out hown3 hgrow3 HF.out HX.out); clear hown3 hgrow3 hat3)
      all_goals (go_wp2_with fail)
      all_goals go_ret
      all_goals exact ⟨_, rfl, HS.out.1, HS.out.2⟩

end Go.Proofs.YtoogpkcpheannabDoor
