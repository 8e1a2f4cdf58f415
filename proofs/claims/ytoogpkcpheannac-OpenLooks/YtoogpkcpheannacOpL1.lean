/-
  The law OpenLooks, for every input: it answers true and writes nothing that was there.
-/
import Derived.Test.YtoogpkcpheannacRefLk2
namespace Go.Proofs.Ytoogpkcpheannac
open Go.RowKit
set_option linter.unusedVariables false
attribute [local go_sem ↓] Go.wp_at_zero Go.wp_at_succ

set_option maxHeartbeats 2000000 in
set_option maxRecDepth 100000 in
theorem olooks_any (n m cp cpl nr cr N cl : Nat) (ap apl ar al : Option Addr) (root v : Int) (g p R : Nat → Int) (o : OQ) (mm : OM) (w : World) (hn : n ≤ maxLen) (hm : m ≤ maxLen) (hN : o.n = N) (hNx : N ≤ maxLen) (hcp : ∀ i, i < o.n → ∀ k e, o.tl i k e ≤ mm.C i k e) (r0 : 0 ≤ root) (r1 : root ≤ 18446744073709551615) (v0 : 0 ≤ v) (v1 : v ≤ 18446744073709551615) (hg : PRow w ap n g) (hgv : Nums g) (hp : IRowP w apl m p) (hR : PRow w ar nr R) (hRv : Nums R) (ho : OpRow w al o mm) (hov : o.nums) :
    Calls Try.prog 3 #[.int .u64 root, .slice ap n cp, .slice apl m cpl, .agg #[.slice ar nr cr, .int .u64 v, .slice al N cl]] w fun e w' => e = .returned (.bool true) ∧ Below w.heap.size w w' := by
  have hb0 := bel_new w (.cells #[.slice ar nr cr, .int .u64 v, .slice al N cl] 27)
  have HL := hid (fun W (hb : Below w.heap.size w W) => look_any n m cp cpl nr cr N cl ap apl ar al root v g p R o mm W hn hm hN r0 r1 v0 v1 (hg.kept hb) hgv (hp.kept hb) (hR.kept hb) hRv (ho.kept hb) hov)
  have HK := hid (fun W (hb : Below w.heap.size w W) => looked_any n m cp cpl nr cr N cl ap apl ar al root v g p R o mm W hn hm hN hNx hcp r0 r1 v0 v1 (hg.kept hb) hgv (hp.kept hb) (hR.kept hb) hRv (ho.kept hb) hov)
  have HB0 := hid hb0
  have HX := hid (Bx3.new w (.slice ar nr cr) (.int .u64 v) (.slice al N cl) 27)
  clear hb0 hg hgv hp hR hRv ho hov hN hcp
  go_enter Try.func3, Try.ntmps3
  go_wp2_with fail
  obtain ⟨B, hB⟩ : ∃ B, w.heap.size = B := ⟨_, rfl⟩
  have HBW := hid hB
  rw [hB] at HX ⊢
  generalize w.alloc (.cells #[.slice ar nr cr, .int .u64 v, .slice al N cl] 27) = W0 at HX HB0 ⊢
  refine (HL.out _ HB0.out).mono ?_
  rintro e w1 ⟨r, x, rfl, hout, hb1⟩
  have HX1 := hid (HX.out.kept hb1)
  have HB1 := hid (HB0.out.trans (hb1.mono HB0.out.size))
  have HO := hid hout
  clear hb1 hout HX HB0
  obtain ⟨z0, z1, z2⟩ := HX1.out
  go_wp2_with fail
  refine (HK.out _ HB1.out).mono ?_
  rintro e w2 ⟨r', x', rfl, hout, hb2⟩
  obtain ⟨e1, e2⟩ := HO.out.same hout
  have HB2 := hid (HB1.out.trans (hb2.mono HB1.out.size))
  subst e1
  subst e2
  clear hout HO hb2
  have f1 : (r == r) = true := beq_self_eq_true r
  have f2 : (x == x) = true := beq_self_eq_true x
  go_wp2_with fail
  go_ret
  exact ⟨rfl, HB2.out⟩

end Go.Proofs.Ytoogpkcpheannac
