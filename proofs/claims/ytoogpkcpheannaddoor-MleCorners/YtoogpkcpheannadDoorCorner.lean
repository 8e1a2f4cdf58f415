/-
  Contracts of tallykeep's between, and of the function that MleCorners makes (a table's value at a point with one number turned); they make new rows and write nothing that was there.
-/
import Derived.Test.YtoogpkcpheannadDoorMleEv
import Derived.Test.YtoogpkcpheannadDoorClone
namespace Go.Proofs.YtoogpkcpheannadDoor
open Go.RowKit
set_option linter.unusedVariables false

def tab4 (j : Nat) : Int := if j = 0 then 3 else if j = 1 then 5 else if j = 2 then 7 else 11
def tab2 (j : Nat) : Int := if j = 0 then 3 else 5
def pnt2 (j : Nat) : Int := if j = 0 then 1 else 0
def pnt1 (_ : Nat) : Int := 2
theorem Nums_tab4 : Nums tab4 := fun j => by unfold tab4; split; omega; split; omega; split <;> omega
theorem Nums_tab2 : Nums tab2 := fun j => by unfold tab2; split <;> omega
theorem Nums_pnt2 : Nums pnt2 := fun j => by unfold pnt2; split <;> omega
theorem Nums_pnt1 : Nums pnt1 := fun j => by unfold pnt1; omega
theorem ev_tab4 : ofK (evS (fun j => kk (tab4 j)) (fun j => kk (pnt2 j)) 2) = 7 := by kernel_rfl
theorem ev_tab2 : ofK (evS (fun j => kk (tab2 j)) (fun j => kk (pnt1 j)) 1) = 7 := by kernel_rfl
theorem row_tab4 (w : World) (t : TypeId) : Row (w.alloc (.cells #[.int .u64 3, .int .u64 5, .int .u64 7, .int .u64 11] t)) w.heap.size 0 4 tab4 := fun j hj => by
  rw [Nat.zero_add, World.cell?_alloc_new]
  match j, hj with
  | 0, _ => rfl
  | 1, _ => rfl
  | 2, _ => rfl
  | 3, _ => rfl
theorem row_tab2 (w : World) (t : TypeId) : Row (w.alloc (.cells #[.int .u64 3, .int .u64 5] t)) w.heap.size 0 2 tab2 := fun j hj => by
  rw [Nat.zero_add, World.cell?_alloc_new]
  match j, hj with
  | 0, _ => rfl
  | 1, _ => rfl
theorem row_pnt2 (w : World) (t : TypeId) : Row (w.alloc (.cells #[.int .u64 1, .int .u64 0] t)) w.heap.size 0 2 pnt2 := fun j hj => by
  rw [Nat.zero_add, World.cell?_alloc_new]
  match j, hj with
  | 0, _ => rfl
  | 1, _ => rfl
theorem row_pnt1 (w : World) (t : TypeId) : Row (w.alloc (.cells #[.int .u64 2] t)) w.heap.size 0 1 pnt1 := fun j hj => by
  rw [Nat.zero_add, World.cell?_alloc_new]
  match j, hj with
  | 0, _ => rfl
theorem new_below (w : World) (x : Obj) : Below w.heap.size w (w.alloc x) := (Below.refl _ w).alloc (Nat.le_refl _) _

set_option maxHeartbeats 2000000 in
set_option maxRecDepth 100000 in
theorem between_ok (w : World) (ht : Tab w) :
    Calls Tryd.prog 6 #[] w fun e w' => e = .returned (.bool true) ∧ Below w.heap.size w w' := by
  have HT := hid ht
  clear ht
  go_enter Tryd.func6, Tryd.ntmps6
  go_wp2_with fail
  have hb1 := new_below w (.cells #[.int .u64 3, .int .u64 5, .int .u64 7, .int .u64 11] 23)
  have hr1 := row_tab4 w 23
  have hs1 : (w.alloc (.cells #[.int .u64 3, .int .u64 5, .int .u64 7, .int .u64 11] 23)).heap.size = w.heap.size + 1 := by simp
  generalize w.alloc (.cells #[.int .u64 3, .int .u64 5, .int .u64 7, .int .u64 11] 23) = W at hb1 hr1 hs1 ⊢
  have hb2 := new_below W (.cells #[.int .u64 1, .int .u64 0] 23)
  have hr2 := row_pnt2 W 23
  rw [hs1] at hr2
  have he := eval_ok w.heap.size 0 2 4 4 2 (some ⟨w.heap.size + 1, 0, none⟩) tab4 pnt2 _ (by omega) rfl (HT.out.kept (hb1.trans (hb2.mono hb1.size)) HT.out.1) (hr1.kept hb2 (hr1.lt (by omega))) Nums_tab4 (PRow.of hr2) Nums_pnt2
  rw [ev_tab4] at he
  have HE := hid he
  have HB := hid (hb1.trans (hb2.mono hb1.size))
  clear he hb1 hb2 hr1 hr2 hs1
  refine (HE.out).mono ?_
  rintro e w1 ⟨rfl, hb⟩
  have HB1 := hid (HB.out.trans (hb.mono HB.out.size))
  clear hb HB HE
  go_wp2_with fail
  have hb1 := new_below w1 (.cells #[.int .u64 3, .int .u64 5] 23)
  have hr1 := row_tab2 w1 23
  have hs1 : (w1.alloc (.cells #[.int .u64 3, .int .u64 5] 23)).heap.size = w1.heap.size + 1 := by simp
  generalize w1.alloc (.cells #[.int .u64 3, .int .u64 5] 23) = W1 at hb1 hr1 hs1 ⊢
  have hb2 := new_below W1 (.cells #[.int .u64 2] 23)
  have hr2 := row_pnt1 W1 23
  rw [hs1] at hr2
  have hB3 := HB1.out.trans ((hb1.trans (hb2.mono hb1.size)).mono HB1.out.size)
  have he := eval_ok w1.heap.size 0 1 2 2 1 (some ⟨w1.heap.size + 1, 0, none⟩) tab2 pnt1 _ (by omega) rfl (HT.out.kept hB3 HT.out.1) (hr1.kept hb2 (hr1.lt (by omega))) Nums_tab2 (PRow.of hr2) Nums_pnt1
  rw [ev_tab2] at he
  have HE := hid he
  have HB3 := hid hB3
  clear he hb1 hb2 hr1 hr2 hs1 hB3 HB1
  refine (HE.out).mono ?_
  rintro e w2 ⟨rfl, hb⟩
  have HB4 := hid (HB3.out.trans (hb.mono HB3.out.size))
  clear hb HB3 HE
  go_wp2_with fail
  go_ret
  exact ⟨rfl, HB4.out⟩

theorem own_free {w : World} {base g n cap : Nat} {f : Nat → Int} (h : Own w base (.slice (some ⟨g, 0, none⟩) n cap) n f) : Free w g 0 n := by
  rcases h.2 with ⟨h0, _⟩ | ⟨g', cap', cur, hv, _, hh, _⟩
  · cases h0
  · simp only [Value.slice.injEq, Option.some.injEq, Addr.mk.injEq] at hv
    obtain ⟨⟨rfl, _⟩, _⟩ := hv
    intro j _
    unfold World.frozen?
    simp [hh]
theorem own_base {w : World} {base g n cap : Nat} {f : Nat → Int} (h : Own w base (.slice (some ⟨g, 0, none⟩) n cap) n f) : base ≤ g := by
  rcases h.2 with ⟨h0, _⟩ | ⟨g', cap', cur, hv, hb, _⟩
  · cases h0
  · simp only [Value.slice.injEq, Option.some.injEq, Addr.mk.injEq] at hv
    obtain ⟨⟨rfl, _⟩, _⟩ := hv
    exact hb
/-- One number of a list, turned. -/
def setF (f : Nat → Int) (i : Nat) (x : Int) (j : Nat) : Int := if j = i then x else f j
theorem Nums_set {f : Nat → Int} (hf : Nums f) (i : Nat) {x : Int} (x0 : 0 ≤ x) (x1 : x ≤ 18446744073709551615) : Nums (setF f i x) := fun j => by
  unfold setF
  split
  · exact ⟨x0, x1⟩
  · exact hf j
theorem kk_setF (f : Nat → Int) (i : Nat) (x : Int) : (fun j => kk (setF f i x j)) = updK (fun j => kk (f j)) i (kk x) := by
  funext j
  unfold setF updK
  split <;> rfl

set_option maxHeartbeats 2000000 in
set_option maxRecDepth 100000 in
theorem turned_any (Bq Bi Bt bq bt n N i : Nat) (f g : Nat → Int) (x : Int) (w : World) (hn1 : 1 ≤ n) (hn : n ≤ 8) (hN : N = 2 ^ n) (hi : i < n) (ht : Tab w) (cq : w.cell? ⟨Bq, 0, none⟩ = some (.slice (some ⟨bq, 0, none⟩) n n)) (ci : w.cell? ⟨Bi, 0, none⟩ = some (.int .i64 (i : Int))) (ct : w.cell? ⟨Bt, 0, none⟩ = some (.slice (some ⟨bt, 0, none⟩) N N))
    (hr : Row w bt 0 N f) (hv : Nums f) (hq : Row w bq 0 n g) (hg : Nums g) (x0 : 0 ≤ x) (x1 : x ≤ 18446744073709551615) :
    Calls Tryd.prog 14 #[.int .u64 x, .pointer (some ⟨Bq, 0, none⟩), .pointer (some ⟨Bi, 0, none⟩), .pointer (some ⟨Bt, 0, none⟩)] w fun e w' => e = .returned (.int .u64 (ofK (evS (fun j => kk (f j)) (updK (fun j => kk (g j)) i (kk x)) n))) ∧ Below w.heap.size w w' := by
  have hN1 : 1 ≤ N := by rw [hN]; exact Nat.one_le_two_pow
  have HN := hid hN
  have HT := hid ht
  have HR := hid hr
  have HV := hid hv
  have HQ := hid hq
  have HG := hid hg
  clear hN ht hr hv hq hg
  go_enter Tryd.func14, Tryd.ntmps14
  go_wp2_with fail
  refine (clone_any bq 0 n n g w hn1 (by omega) HQ.out).mono ?_
  rintro e w1 ⟨b2, c2, rfl, hown, hb⟩
  have hown : Own w1 w.heap.size (.slice (some ⟨b2, 0, none⟩) n c2) n g := hown
  have ci1 := (hb.cell (p := ⟨Bi, 0, none⟩) (World.block_lt_of_cell? w _ ci)).trans ci
  have ct1 := (hb.cell (p := ⟨Bt, 0, none⟩) (World.block_lt_of_cell? w _ ct)).trans ct
  have hlt := World.block_lt_of_cell? w _ ct
  have hbase := own_base hown
  have hrow := row_own hown
  have c1 := hrow i hi
  have f1 := own_free hown i hi
  rw [Nat.zero_add] at c1 f1
  obtain ⟨y, hy⟩ : ∃ y, g i = y := ⟨_, rfl⟩
  rw [hy] at c1
  have hst := hrow.store i x hi
  rw [Nat.zero_add] at hst
  have hb2 : Below w.heap.size w (w1.setCell ⟨b2, i, none⟩ (.int .u64 x)) := hb.setCell hbase _
  have HST : Hid (Row (w1.setCell ⟨b2, i, none⟩ (.int .u64 x)) b2 0 n (setF g i x)) := hid hst
  have HB2 := hid hb2
  have ct2 : (w1.setCell ⟨b2, i, none⟩ (.int .u64 x)).cell? ⟨Bt, 0, none⟩ = some (.slice (some ⟨bt, 0, none⟩) N N) := (hb2.cell (p := ⟨Bt, 0, none⟩) hlt).trans ct
  clear hown hb hbase hrow hst hb2 hy
  have i0 : (0 : Int) ≤ (i : Int) := by omega
  have i1 : (i : Int) < (n : Int) := by omega
  go_wp2_with fail
  have he := eval_ok bt 0 n N N c2 (some ⟨b2, 0, none⟩) f (setF g i x) _ hn HN.out (HT.out.kept HB2.out HT.out.1) (HR.out.kept HB2.out (HR.out.lt (by omega))) HV.out (PRow.of HST.out) (Nums_set HG.out i x0 x1)
  rw [kk_setF] at he
  refine he.mono ?_
  rintro e w2 ⟨rfl, hb⟩
  have HB3 := hid (HB2.out.trans (hb.mono HB2.out.size))
  clear hb he
  go_wp2_with fail
  go_ret
  exact ⟨rfl, HB3.out⟩

end Go.Proofs.YtoogpkcpheannadDoor
