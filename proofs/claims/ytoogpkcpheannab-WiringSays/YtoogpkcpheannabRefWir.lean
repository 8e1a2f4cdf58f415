/-
  Contracts of tallyref's Wired and Step, of right things; they make new blocks and write nothing that was there.
-/
import Derived.Test.YtoogpkcpheannabWirQ
import Derived.Test.YtoogpkcpheannabMleRef
import Derived.Test.YtoogpkcpheannabRefC2
import Derived.Deep.QuietTactic
import Derived.Deep.RegionHeld3
namespace Go.Proofs.Ytoogpkcpheannab
open Go.RowKit
set_option linter.unusedVariables false
attribute [local go_sem ↓] Go.wp_at_zero Go.wp_at_succ

theorem reqp_any (ao : Option Addr) (n cap : Nat) (g : Nat → Int) (at0 : Nat) (w : World) (hn : n ≤ 1000) (hp : PRow w ao n g) (hv : Nums g) (hat : at0 ≤ 100000) :
    Calls Try.prog 34 #[.slice ao n cap, .int .i64 (at0 : Int)] w fun e w' => e = .returned (.int .u64 (ofK (eqK (pK g) n at0))) ∧ w' = w := by
  by_cases h0 : n = 0
  · subst h0
    exact req_zero ao cap at0 w hat
  · obtain ⟨b, off, rfl, hr⟩ := hp (by omega)
    exact req_any b off n cap g at0 w hn hr hv hat

set_option maxHeartbeats 2000000 in
set_option maxRecDepth 100000 in
theorem rwired_ok (l : LQ) (g : Int) (b off n cap k : Nat) (ga : Option Addr) (gc : Nat) (mul : Bool) (az ax ay : Option Addr) (nz cz nx cx ny cy N M : Nat) (z x y : Nat → Int) (w : World) (hk : k < n) (n4 : n ≤ 4)
    (hN : N = 2 ^ nz) (N16 : N ≤ 16) (M16 : M ≤ 16) (z4 : nz ≤ 4) (x4 : nx ≤ 4) (hxy : ny = nx) (hlen : l.gates.length = N) (hgo : ∀ q ∈ l.gates, gateOk (M : Int) q)
    (hc : w.cell? ⟨b, off + 2 * k + 1, none⟩ = some (.slice ga N gc)) (hgr : GRow w ga l.gates)
    (pz : PRow w az nz z) (px : PRow w ax nx x) (py : PRow w ay ny y) (vz : Nums z) (vx : Nums x) (vy : Nums y) :
    Calls Try.prog 18 #[.agg #[.int .i64 g, .slice (some ⟨b, off, none⟩) n cap], .int .i64 (k : Int), .bool mul, .slice az nz cz, .slice ax nx cx, .slice ay ny cy] w fun e w' => e = .returned (.int .u64 (wirQ mul l.gates nz nx z x y)) ∧ Below w.heap.size w w' := by
  subst hxy
  rw [Nat.mul_comm 2 k] at hc
  have bl : b < w.heap.size := World.block_lt_of_cell? w _ hc
  have HC := hid (And.intro hc bl)
  have HGR := hid hgr
  have HLEN := hid hlen
  have HGO := hid hgo
  have HNN := hid hN
  have HPZ := hid pz
  have HPX := hid px
  have HPY := hid py
  have HV := hid (And.intro vz (And.intro vx vy))
  have k0 : (0 : Int) ≤ (k : Int) := by omega
  have k1 : (k : Int) < (n : Int) := by omega
  clear hc bl hgr hlen hgo hN pz px py vz vx vy
  go_enter Try.func18, Try.ntmps18
  go_wp2_with fail
  have HW0 := hid ((Below.refl w.heap.size w).alloc (Nat.le_refl _) (.cells #[.int .i64 g, .slice (some ⟨b, off, none⟩) n cap] 42))
  have HX0 := hid (Box2.new w (.int .i64 g) (.slice (some ⟨b, off, none⟩) n cap) 42)
  obtain ⟨B, hB⟩ : ∃ B, w.heap.size = B := ⟨_, rfl⟩
  rw [hB] at HX0 ⊢
  clear hB
  generalize w.alloc (.cells #[.int .i64 g, .slice (some ⟨b, off, none⟩) n cap] 42) = W0 at HW0 HX0 ⊢
  have HC0 := hid (Below.refl W0.heap.size W0)
  go_loopg [13, 14] N (fun q v i wr => ∃ (t : Nat) (p : Int), t ≤ N ∧ q = N - t ∧ v = .int .u64 p ∧ i = .int .i64 (t : Int) ∧ 0 ≤ p ∧ p ≤ 2305843009213693950 ∧ Hid (p = ofK (wirP mul l.gates nz ny z x y t)) ∧ Hid (Below W0.heap.size W0 wr))
  case atStart => exact ⟨0, 0, by omega, rfl, rfl, rfl, by omega, by omega, hid rfl, HC0⟩
  case round =>
    clear HC0
    obtain ⟨t, p, ht, rfl, rfl, rfl, p0, p1, HP, HBW⟩ := hrel
    obtain ⟨x0, x1, xl⟩ := HX0.out.kept HBW.out
    have HB3 := hid (HW0.out.trans (HBW.out.mono HW0.out.size))
    have y1 : wr.cell? ⟨b, off + k * 2 + 1, none⟩ = some (.slice ga N gc) := (HB3.out.cell HC.out.2).trans HC.out.1
    by_cases htl : t < N
    · obtain ⟨q, hq⟩ : ∃ q, l.gates[t]? = some q := ⟨l.gates[t]'(by rw [HLEN.out]; exact htl), by simp⟩
      obtain ⟨gb, go, rfl, hgc⟩ := HGR.out.kept HB3.out (by intro e; have := HLEN.out; rw [e] at this; simp at this; omega)
      obtain ⟨q0, q1, q2⟩ := hgc t q hq
      obtain ⟨⟨a0, a1⟩, b0, b1⟩ := HGO.out q (List.mem_of_getElem? hq)
      rw [Nat.mul_comm 3 t] at q0 q1 q2
      obtain ⟨qm, hqm⟩ : ∃ v, q.mul = v := ⟨_, rfl⟩
      obtain ⟨ia, hia⟩ : ∃ v : Nat, q.a = (v : Int) := ⟨q.a.toNat, by omega⟩
      obtain ⟨ib, hib⟩ : ∃ v : Nat, q.b = (v : Int) := ⟨q.b.toNat, by omega⟩
      rw [hqm] at q0
      rw [hia] at q1 a1
      rw [hib] at q2 b1
      have HQ := hid (And.intro hq (And.intro hqm (And.intro hia hib)))
      clear hgc hq hqm hia hib a0 b0
      have t0 : (0 : Int) ≤ (t : Int) := by omega
      have t1 : (t : Int) < (N : Int) := by omega
      have hal := (Below.refl wr.heap.size wr).alloc (Nat.le_refl _) (.cells #[.bool qm, .int .i64 (ia : Int), .int .i64 (ib : Int)] 66)
      have HBA := hid (HBW.out.trans (hal.mono HBW.out.size))
      by_cases hm : qm = mul
      · have em : (qm == mul) = true := by rw [hm]; simp
        obtain ⟨ez, hez⟩ : ∃ v, ofK (eqK (pK z) nz t) = v := ⟨_, rfl⟩
        obtain ⟨ex, hex⟩ : ∃ v, ofK (eqK (pK x) ny ia) = v := ⟨_, rfl⟩
        obtain ⟨ey, hey⟩ : ∃ v, ofK (eqK (pK y) ny ib) = v := ⟨_, rfl⟩
        have HQZ := hid (fun m => reqp_any az nz cz z t ((wr.alloc (.cells #[.bool qm, .int .i64 (ia : Int), .int .i64 (ib : Int)] 66)).drewN m) (by omega) (show PRow (wr.alloc (.cells #[.bool qm, .int .i64 (ia : Int), .int .i64 (ib : Int)] 66)) az nz z from (HPZ.out.kept HB3.out).kept hal) HV.out.1 (by omega))
        have HQX := hid (fun m => reqp_any ax ny cx x ia ((wr.alloc (.cells #[.bool qm, .int .i64 (ia : Int), .int .i64 (ib : Int)] 66)).drewN m) (by omega) (show PRow (wr.alloc (.cells #[.bool qm, .int .i64 (ia : Int), .int .i64 (ib : Int)] 66)) ax ny x from (HPX.out.kept HB3.out).kept hal) HV.out.2.1 (by omega))
        have HQY := hid (fun m => reqp_any ay ny cy y ib ((wr.alloc (.cells #[.bool qm, .int .i64 (ia : Int), .int .i64 (ib : Int)] 66)).drewN m) (by omega) (show PRow (wr.alloc (.cells #[.bool qm, .int .i64 (ia : Int), .int .i64 (ib : Int)] 66)) ay ny y from (HPY.out.kept HB3.out).kept hal) HV.out.2.2 (by omega))
        rw [hez] at HQZ
        rw [hex] at HQX
        rw [hey] at HQY
        have ez0 : 0 ≤ ez ∧ ez ≤ 18446744073709551615 := by rw [← hez]; exact ofK_u64 _
        have ex0 : 0 ≤ ex ∧ ex ≤ 18446744073709551615 := by rw [← hex]; exact ofK_u64 _
        have ey0 : 0 ≤ ey ∧ ey ≤ 18446744073709551615 := by rw [← hey]; exact ofK_u64 _
        have HNX := hid (wir_hit HQ.out.1 (HQ.out.2.1.trans hm) HQ.out.2.2.1 HQ.out.2.2.2 HP.out hez.symm hex.symm hey.symm).2
        clear hez hex hey hm
        obtain ⟨ez0, ez1⟩ := ez0
        obtain ⟨ex0, ex1⟩ := ex0
        obtain ⟨ey0, ey1⟩ := ey0
        obtain ⟨mw0, mw1⟩ := mulQ_rng ez ex
        obtain ⟨mv0, mv1⟩ := mulQ_rng (mulQ ez ex) ey
        obtain ⟨ma0, ma1⟩ := addQ_rng p (mulQ (mulQ ez ex) ey)
        clear hal
        go_wp2_with fail
        go_quiet (first | (go_at_call 33; exact Calls.quiet_of_same (rmul_any _ _ _ (by omega) (by omega) (by omega) (by omega))) | (go_at_call 22; exact Calls.quiet_of_same (radd_any _ _ _ (by omega) (by omega) (by omega) (by omega))) | (go_at_call 34; first | with_reducible exact Calls.quiet_of_same (HQZ.out _) | with_reducible exact Calls.quiet_of_same (HQX.out _) | with_reducible exact Calls.quiet_of_same (HQY.out _)))
        go_wp2_with fail
        go_roundg (N - (t + 1))
        case measure => go_light; omega
        case rel => exact ⟨t + 1, _, by omega, rfl, rfl, by go_num, ma0, ma1, HNX, hid ⟨HBA.out.os, HBA.out.tape, HBA.out.output, HBA.out.size, HBA.out.block⟩⟩
      · have em : (qm == mul) = false := by simp; exact hm
        have HNX := hid (wir_miss (l := nz) (k := ny) (z := z) (x := x) (y := y) HQ.out.1 (fun e => hm (HQ.out.2.1.symm.trans e)))
        go_wp2_with fail
        go_roundg (N - (t + 1))
        case measure => go_light; omega
        case rel => exact ⟨t + 1, p, by omega, rfl, rfl, by go_num, p0, p1, hid (by rw [HNX.out]; exact HP.out), HBA⟩
    · have e : t = N := by omega
      subst e
      go_wp2_with fail
      go_ret
      exact ⟨ret_u64 (by rw [HP.out, HNN.out]; rfl), HB3.out⟩

end Go.Proofs.Ytoogpkcpheannab
