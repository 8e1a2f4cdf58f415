/-
  A contract of tallykeep's opened, for every world: it answers true and writes nothing that was there.
-/
import Derived.Test.YtnnjajmkfgnhcaaDoorOpQ
namespace Go.Proofs.YtnnjajmkfgnhcaaDoor
open Go.RowKit
set_option linter.unusedVariables false
attribute [local go_sem ↓] Go.wp_at_zero Go.wp_at_succ

theorem seven : fdQ (fun j => if j = 0 then 3 else 5) (fun _ => 2) 1 1 0 = 7 := by
  show addQ _ (mulQ _ (subQ _ _)) = 7
  decide

set_option maxHeartbeats 4000000 in
set_option maxRecDepth 100000 in
theorem opened_any (w : World) (ht : Tab w) : Calls Tryd.prog 27 #[] w fun e w' => e = .returned (.bool true) ∧ Below w.heap.size w w' := by
  have hb0 := bel_new w (.cells #[.int .u64 3, .int .u64 5] 26)
  have HR0 := hid (lit2 w 3 5 26)
  have HB0 := hid hb0
  have HT := hid (fun W (h : Below w.heap.size w W) => ht.kept h ht.1)
  have hvf : Nums (fun j => if j = 0 then (3 : Int) else 5) := fun j => by dsimp only; split <;> omega
  have hvg : Nums (fun _ => (2 : Int)) := fun j => by dsimp only; omega
  have hrt := rootQ_rng 1 (fun j => if j = 0 then (3 : Int) else 5)
  have HRO := hid (fun W b (h : Row W b 0 2 (fun j => if j = 0 then (3 : Int) else 5)) (hT : Tab W) => troot_any 1 2 b 0 2 (fun j => if j = 0 then (3 : Int) else 5) W (by omega) rfl hT h hvf)
  have HOP := hid (fun W b (ap apl : Option Addr) (h : Row W b 0 2 (fun j => if j = 0 then (3 : Int) else 5)) (hT : Tab W) (hp : PRow W ap 1 (fun _ => (2 : Int))) (hi : IRowP W apl 1 fun j => (((fun _ => 0) j : Nat) : Int)) => open_ok 1 2 b 0 2 1 1 1 ap apl (fun j => if j = 0 then (3 : Int) else 5) (fun _ => 2) (fun _ => 0) W (by omega) (by omega) rfl hT h hvf hp hvg hi (plOk_of (by omega) fun j _ => hfQ_pos 1 0))
  have HLK := hid (fun W (ap apl : Option Addr) (lb rb : Nat) (mm : OM) (hp : PRow W ap 1 (fun _ => (2 : Int))) (hi : IRowP W apl 1 fun j => (((fun _ => 0) j : Nat) : Int)) (hR : Row W rb 0 1 (oR (fun j => if j = 0 then (3 : Int) else 5) (fun _ => 2) 1)) (ho : OpRow W (some ⟨lb, 0, none⟩) (rightO (fun j => if j = 0 then (3 : Int) else 5) (fun _ => 2) 1 1 (fun _ => 0)) mm) => look_right 1 1 1 1 lb rb ap apl (rootQ 1 (fun j => if j = 0 then (3 : Int) else 5)) (fun j => if j = 0 then (3 : Int) else 5) (fun _ => 2) (fun _ => 0) mm W (by omega) (by omega) (by omega) (fun j _ => hfQ_pos 1 0) rfl hp hvg hi hR ho)
  rw [seven] at HLK HOP
  generalize rootQ 1 (fun j => if j = 0 then (3 : Int) else 5) = root at HRO HLK hrt
  generalize oR (fun j => if j = 0 then (3 : Int) else 5) (fun _ => 2) 1 = OR at HOP HLK
  generalize rightO (fun j => if j = 0 then (3 : Int) else 5) (fun _ => 2) 1 1 (fun _ => 0) = OO at HOP HLK
  clear hb0 ht hvf hvg
  go_enter Tryd.func27, Tryd.ntmps27
  go_wp2_with fail
  obtain ⟨B, hB⟩ : ∃ B, w.heap.size = B := ⟨_, rfl⟩
  rw [hB] at HR0 ⊢
  clear hB
  generalize w.alloc (.cells #[.int .u64 3, .int .u64 5] 26) = W0 at HR0 HB0 ⊢
  refine (HRO.out _ _ HR0.out (HT.out _ HB0.out)).mono ?_
  rintro e w1 ⟨rfl, hb1⟩
  have HB1 := hid (HB0.out.trans (hb1.mono HB0.out.size))
  have HR1 := hid (HR0.out.kept hb1 (HR0.out.lt (by omega)))
  clear hb1 HB0 HR0 HRO
  obtain ⟨b12, hp2, hi2⟩ := two_lits w1
  have HP2 := hid hp2
  have HI2 := hid hi2
  have HB2 := hid (HB1.out.trans (b12.mono HB1.out.size))
  have HR2 := hid (HR1.out.kept b12 (HR1.out.lt (by omega)))
  clear b12 hp2 hi2 HB1 HR1
  go_wp2_with fail
  generalize (w1.alloc (.cells #[.int .u64 2] 26)).alloc (.cells #[.int .i64 0] 3) = W2 at HP2 HI2 HB2 HR2 ⊢
  refine (HOP.out _ _ _ _ HR2.out (HT.out _ HB2.out) HP2.out HI2.out).mono ?_
  rintro e w3 ⟨rb, lb, mm, rfl, hrow, hop, hb3⟩
  have b0 := bel_new w3 (.cells #[.slice (some ⟨rb, 0, none⟩) 1 1, .int .u64 7, .slice (some ⟨lb, 0, none⟩) 1 1] 29)
  have HX := hid (Bx3.new w3 (.slice (some ⟨rb, 0, none⟩) 1 1) (.int .u64 7) (.slice (some ⟨lb, 0, none⟩) 1 1) 29)
  have HB3 := hid (HB2.out.trans ((hb3.trans (b0.mono hb3.size)).mono HB2.out.size))
  have HR3 := hid (hrow.kept b0 (hrow.lt (by omega)))
  have HO3 := hid (hop.kept b0)
  clear b0 hrow hop hb3 HB2 HR2 HP2 HI2 HOP
  go_wp2_with fail
  obtain ⟨XX, hXX⟩ : ∃ XX, w3.heap.size = XX := ⟨_, rfl⟩
  rw [hXX] at HX ⊢
  have HS3 : Hid ((w3.alloc (.cells #[.slice (some ⟨rb, 0, none⟩) 1 1, .int .u64 7, .slice (some ⟨lb, 0, none⟩) 1 1] 29)).heap.size = XX + 1) := hid (by rw [← hXX]; simp)
  generalize w3.alloc (.cells #[.slice (some ⟨rb, 0, none⟩) 1 1, .int .u64 7, .slice (some ⟨lb, 0, none⟩) 1 1] 29) = W3 at HX HB3 HR3 HO3 HS3 ⊢
  clear hXX
  obtain ⟨b12, hp4, hi4⟩ := two_lits W3
  rw [HS3.out] at hp4 hi4
  refine (HLK.out _ _ _ lb rb mm hp4 hi4 (HR3.out.kept b12 (HR3.out.lt (by omega))) (HO3.out.kept b12)).mono ?_
  rintro e w5 ⟨rfl, hb5⟩
  have HB5 := hid (HB3.out.trans ((b12.trans (hb5.mono b12.size)).mono HB3.out.size))
  have x1 := ((HX.out.kept b12).kept hb5).c1
  clear b12 hp4 hi4 hb5
  go_wp2_with fail
  go_ret
  exact ⟨rfl, HB5.out⟩

end Go.Proofs.YtnnjajmkfgnhcaaDoor
