/-
  Contracts of package wiring's Value and Step, for every circuit, every layer and all points; they make new blocks and write nothing that was there.
-/
import Derived.Test.YtnnjajmkfgnhcaaDoorWirC
import Derived.Test.YtnnjajmkfgnhcaaDoorMleEqC
import Derived.Test.YtnnjajmkfgnhcaaDoorFieldA
import Derived.Deep.QuietTactic
namespace Go.Proofs.YtnnjajmkfgnhcaaDoor
open Go.RowKit
set_option linter.unusedVariables false
attribute [local go_sem ↓] Go.wp_at_zero Go.wp_at_succ

theorem eqp_any (ao : Option Addr) (n cap N : Nat) (g : Nat → Int) (w : World) (hn : n ≤ 8) (hN : N = 2 ^ n) (hp : PRow w ao n g) (hv : Nums g) :
    Calls Tryd.prog 73 #[.slice ao n cap] w fun e w' => e = .returned (.tuple #[.slice (some ⟨w.heap.size, 0, none⟩) N N, .int .i64 0]) ∧ Made w w' N (wgt g n) := by
  by_cases h0 : n = 0
  · subst h0
    obtain rfl : N = 1 := hN
    exact eq_zero ao cap g w
  · obtain ⟨b, off, rfl, hr⟩ := hp (by omega)
    exact eq_ok b off n cap N g w hn hN hr hv
/-- The number of a right circuit's layer, as a Log and a length. -/
theorem ask_nums {c : CQ} {k nz nx ny : Nat} {l : LQ} (hc : c.right) (h : askOk c (k : Int) nz nx ny k l) : c.layers[k]? = some l ∧ l.log = (nz : Int) ∧ belowQ c k = (nx : Int) ∧ ny = nx ∧ nz ≤ 4 ∧ nx ≤ 4 ∧ l.gates.length = 2 ^ nz ∧ ∀ q ∈ l.gates, gateOk ((2 ^ nx : Nat) : Int) q := by
  obtain ⟨_, hl, h3, h4, h5⟩ := h
  obtain ⟨r1, r2, r3⟩ := hc.layer k l hl
  obtain ⟨bk, e, b4⟩ := below_rng (k := k) rfl hc.log.1 hc.log.2 fun j _ x hx => hc.layer j x hx
  rw [← h4, Int.toNat_natCast] at r3
  rw [← h3, Int.toNat_natCast] at r2
  exact ⟨hl, h3.symm, h4.symm, by omega, by omega, by omega, r2, r3⟩

set_option maxHeartbeats 2000000 in
set_option maxRecDepth 100000 in
theorem value_any (c : CQ) (g : Int) (ao : Option Addr) (n cap : Nat) (A : Nat → Option Addr) (C : Nat → Nat) (i : Int) (mul : Bool) (az ax ay : Option Addr) (nz cz nx cx ny cy : Nat) (z x y : Nat → Int) (w : World) (hg : c.log = g) (hn : c.layers.length = n) (hr : CRow w ao c.layers A C)
    (pz : PRow w az nz z) (px : PRow w ax nx x) (py : PRow w ay ny y) (vz : Nums z) (vx : Nums x) (vy : Nums y) :
    Calls Tryd.prog 51 #[.agg #[.int .i64 g, .slice ao n cap], .int .i64 i, .bool mul, .slice az nz cz, .slice ax nx cx, .slice ay ny cy] w fun e w' => ∃ v x', e = .returned (.tuple #[.int .u64 v, .int .i64 x']) ∧ askE c i nz nx ny x' ∧ (x' ≠ 0 → v = 0) ∧ (x' = 0 → v = wvlQ c i mul z x y) ∧ Below w.heap.size w w' := by
  have HR := hid hr
  have HG := hid hg
  have HN := hid hn
  have HPZ := hid pz
  have HPX := hid px
  have HPY := hid py
  have HV := hid (And.intro vz (And.intro vx vy))
  have HS0 := hid (StW.start w g (.slice ao n cap) 46)
  clear hr hg hn pz px py vz vx vy
  go_enter Tryd.func51, Tryd.ntmps51
  go_wp2_with fail
  obtain ⟨B, hB⟩ : ∃ B, w.heap.size = B := ⟨_, rfl⟩
  have HS1 : Hid (StW w (w.alloc (.cells #[.int .i64 g, .slice ao n cap] 46)) B g (.slice ao n cap)) := hid (by rw [← hB]; exact HS0.out)
  rw [hB]
  clear hB HS0
  generalize w.alloc (.cells #[.int .i64 g, .slice ao n cap] 46) = W1 at HS1 ⊢
  refine (wchk_any c g ao n cap A C i az ax ay nz cz nx cx ny cy W1 HG.out HN.out (HR.out.kept HS1.out.bel)).mono ?_
  rintro e w1 ⟨x', rfl, hx, hb⟩
  have HX := hid hx
  have HS2 := hid (HS1.out.next hb)
  clear hb hx HS1
  by_cases h0 : x' = 0
  · subst h0
    obtain ⟨hc, k, l, hk⟩ := askE_zero HX.out
    obtain rfl := hk.1
    obtain ⟨hl, hlog, hbel, rfl, z4, x4, hlen, hgo⟩ := ask_nums hc hk
    obtain ⟨b, off, rfl, _⟩ := HR.out hc.some
    have n4 : n ≤ 4 := by have := hc.few; rw [HN.out] at this; exact this
    have hkn : k < n := by obtain ⟨h, _⟩ := List.getElem?_eq_some_iff.1 hl; rw [HN.out] at h; exact h
    have HVQ : Hid (wvlQ c (k : Int) mul z x y = wirQ mul l.gates nz ny z x y) := hid (by rw [wvlQ_at hl, hlog, hbel, Int.toNat_natCast, Int.toNat_natCast])
    have HC := hid hc
    have HL := hid hl
    obtain ⟨N, hN⟩ : ∃ N, N = 2 ^ nz := ⟨_, rfl⟩
    obtain ⟨M, hM⟩ : ∃ M, M = 2 ^ ny := ⟨_, rfl⟩
    rw [← hN] at hlen
    rw [← hM] at hgo
    have N16 : N ≤ 16 := by rw [hN]; exact Nat.le_trans (Nat.pow_le_pow_right (by omega) z4) (by decide)
    have M16 : M ≤ 16 := by rw [hM]; exact Nat.le_trans (Nat.pow_le_pow_right (by omega) x4) (by decide)
    have HNN := hid hN
    have HMM := hid hM
    have HLEN := hid hlen
    have HGO := hid hgo
    clear hc hk hl hlog hbel hlen hgo hN hM
    go_wp2_with fail
    refine (eqp_any az nz cz N z w1 (by omega) HNN.out (HPZ.out.kept HS2.out.bel) HV.out.1).mono ?_
    rintro e w2 ⟨rfl, hm⟩
    have HS3 := hid (HS2.out.next hm.below)
    have HEZ := hid hm.row
    clear hm HS2
    obtain ⟨bz, hbz⟩ : ∃ x, w1.heap.size = x := ⟨_, rfl⟩
    rw [hbz] at HEZ ⊢
    clear hbz
    go_wp2_with fail
    refine (eqp_any ax ny cx M x w2 (by omega) HMM.out (HPX.out.kept HS3.out.bel) HV.out.2.1).mono ?_
    rintro e w3 ⟨rfl, hm⟩
    have HS4 := hid (HS3.out.next hm.below)
    have M1 : 1 ≤ M := by rw [HMM.out]; exact Nat.one_le_two_pow
    have N1 : 1 ≤ N := by rw [HNN.out]; exact Nat.one_le_two_pow
    have HEZ4 := hid (HEZ.out.kept hm.below (HEZ.out.lt (by omega)))
    have HEX := hid hm.row
    clear hm HS3 HEZ
    obtain ⟨bx, hbx⟩ : ∃ x, w2.heap.size = x := ⟨_, rfl⟩
    rw [hbx] at HEX ⊢
    clear hbx
    go_wp2_with fail
    refine (eqp_any ay ny cy M y w3 (by omega) HMM.out (HPY.out.kept HS4.out.bel) HV.out.2.2).mono ?_
    rintro e w4 ⟨rfl, hm⟩
    have HS5 := hid (HS4.out.next hm.below)
    have HEZ5 := hid (HEZ4.out.kept hm.below (HEZ4.out.lt (by omega)))
    have HEX5 := hid (HEX.out.kept hm.below (HEX.out.lt (by omega)))
    have HEY5 := hid hm.row
    clear hm HS4 HEZ4 HEX
    obtain ⟨by', hby⟩ : ∃ x, w3.heap.size = x := ⟨_, rfl⟩
    rw [hby] at HEY5 ⊢
    clear hby
    obtain ⟨z0, z1, zl⟩ := HS5.out.box
    obtain ⟨b', off', eb, hcl⟩ := HR.out.kept HS5.out.bel HC.out.some
    cases eb
    obtain ⟨_, y1, y2, _⟩ := hcl k l HL.out
    rw [Nat.mul_comm 2 k, HLEN.out] at y1
    have HGR := hid y2
    obtain ⟨ga, hga⟩ : ∃ x, A k = x := ⟨_, rfl⟩
    obtain ⟨gc, hgc⟩ : ∃ x, C k = x := ⟨_, rfl⟩
    rw [hga, hgc] at y1
    rw [hga] at HGR
    clear hcl y2 hga hgc
    have k0 : (0 : Int) ≤ (k : Int) := by omega
    have k1 : (k : Int) < (n : Int) := by omega
    go_wp2_with fail
    clear y1 z0 z1 zl k0 k1
    have HC0 := hid (Below.refl w4.heap.size w4)
    go_loopg [21, 56] N (fun q v i wr => ∃ (t : Nat) (p : Int), t ≤ N ∧ q = N - t ∧ v = .int .u64 p ∧ i = .int .i64 (t : Int) ∧ 0 ≤ p ∧ p ≤ 2305843009213693950 ∧ Hid (p = ofK (wirP mul l.gates nz ny z x y t)) ∧ Hid (Below w4.heap.size w4 wr))
    case atStart => exact ⟨0, 0, by omega, rfl, rfl, rfl, by omega, by omega, hid rfl, HC0⟩
    case round =>
      clear HC0
      obtain ⟨t, p, ht, rfl, rfl, rfl, p0, p1, HP, HBW⟩ := hrel
      by_cases htl : t < N
      · obtain ⟨q, hq⟩ : ∃ q, l.gates[t]? = some q := ⟨l.gates[t]'(by rw [HLEN.out]; exact htl), by simp⟩
        obtain ⟨gb, go, rfl, hgc⟩ := HGR.out.kept HBW.out (by intro e; have := HLEN.out; rw [e] at this; simp at this; omega)
        obtain ⟨q0, q1, q2⟩ := hgc t q hq
        obtain ⟨⟨a0, a1⟩, b0, b1⟩ := HGO.out q (List.mem_of_getElem? hq)
        rw [Nat.mul_comm 3 t] at q0 q1 q2
        obtain ⟨qm, hqm⟩ : ∃ v, q.mul = v := ⟨_, rfl⟩
        obtain ⟨ia, hia⟩ : ∃ v : Nat, q.a = (v : Int) := ⟨q.a.toNat, by omega⟩
        obtain ⟨ib, hib⟩ : ∃ v : Nat, q.b = (v : Int) := ⟨q.b.toNat, by omega⟩
        rw [hqm] at q0
        rw [hia] at q1 a1
        rw [hib] at q2 b1
        have HQ := hid (And.intro hq (And.intro hqm (And.intro hia hib)))
        clear hgc hq hqm hia hib a0 b0
        have t0 : (0 : Int) ≤ (t : Int) := by omega
        have t1 : (t : Int) < (N : Int) := by omega
        have hal := (Below.refl wr.heap.size wr).alloc (Nat.le_refl _) (.cells #[.bool qm, .int .i64 (ia : Int), .int .i64 (ib : Int)] 91)
        have HBA := hid (HBW.out.trans (hal.mono HBW.out.size))
        by_cases hm : qm = mul
        · have em : (qm == mul) = true := by rw [hm]; simp
          have hz := (HEZ5.out.kept HBW.out (HEZ5.out.lt (by omega)))
          have hx := (HEX5.out.kept HBW.out (HEX5.out.lt (by omega)))
          have hy := (HEY5.out.kept HBW.out (HEY5.out.lt (by omega)))
          have dz := hz t htl
          have dx := hx ia (by omega)
          have dy := hy ib (by omega)
          have lz := hz.lt (by omega)
          have lx := hx.lt (by omega)
          have ly := hy.lt (by omega)
          rw [Nat.zero_add] at dz dx dy
          obtain ⟨ez, hez⟩ : ∃ v, wgt z nz t = v := ⟨_, rfl⟩
          obtain ⟨ex, hex⟩ : ∃ v, wgt x ny ia = v := ⟨_, rfl⟩
          obtain ⟨ey, hey⟩ : ∃ v, wgt y ny ib = v := ⟨_, rfl⟩
          rw [hez] at dz
          rw [hex] at dx
          rw [hey] at dy
          have ez0 : 0 ≤ ez ∧ ez ≤ 18446744073709551615 := by rw [← hez]; exact ofK_u64 _
          have ex0 : 0 ≤ ex ∧ ex ≤ 18446744073709551615 := by rw [← hex]; exact ofK_u64 _
          have ey0 : 0 ≤ ey ∧ ey ≤ 18446744073709551615 := by rw [← hey]; exact ofK_u64 _
          have HNX := hid (wir_hit HQ.out.1 (HQ.out.2.1.trans hm) HQ.out.2.2.1 HQ.out.2.2.2 HP.out (hez.symm.trans rfl) (hex.symm.trans rfl) (hey.symm.trans rfl)).1
          clear hez hex hey hz hx hy hm
          obtain ⟨ez0, ez1⟩ := ez0
          obtain ⟨ex0, ex1⟩ := ex0
          obtain ⟨ey0, ey1⟩ := ey0
          have dz' : ∀ o, (wr.alloc o).cell? ⟨bz, t, none⟩ = some (.int .u64 ez) := fun o => by rw [World.cell?_alloc_old _ _ _ (Nat.ne_of_lt lz)]; exact dz
          have dx' : ∀ o, (wr.alloc o).cell? ⟨bx, ia, none⟩ = some (.int .u64 ex) := fun o => by rw [World.cell?_alloc_old _ _ _ (Nat.ne_of_lt lx)]; exact dx
          have dy' : ∀ o, (wr.alloc o).cell? ⟨by', ib, none⟩ = some (.int .u64 ey) := fun o => by rw [World.cell?_alloc_old _ _ _ (Nat.ne_of_lt ly)]; exact dy
          have i0 : (0 : Int) ≤ (ia : Int) := by omega
          have i1 : (0 : Int) ≤ (ib : Int) := by omega
          have i2 : ia < M := by omega
          have i3 : ib < M := by omega
          obtain ⟨mw0, mw1⟩ := mulQ_rng ex ey
          obtain ⟨mv0, mv1⟩ := mulQ_rng ez (mulQ ex ey)
          obtain ⟨ma0, ma1⟩ := addQ_rng p (mulQ ez (mulQ ex ey))
          clear dz dx dy lz lx ly
          go_wp2_with fail
          go_quiet (first | (go_at_call 52; exact Calls.quiet_of_same (mul_any _ _ _ (by omega) (by omega) (by omega) (by omega))))
          go_wp2_with (first | (go_at_call 52; refine (mul_any _ _ _ (by omega) (by omega) (by omega) (by omega)).mono ?_; rintro e w' ⟨rfl, hw⟩; obtain rfl := hw.symm) | (go_at_call 25; refine (add_any _ _ _ (by omega) (by omega) (by omega) (by omega)).mono ?_; rintro e w' ⟨rfl, hw⟩; obtain rfl := hw.symm))
          go_roundg (N - (t + 1))
          case measure => go_light; omega
          case rel => exact ⟨t + 1, _, by omega, rfl, rfl, by go_num, ma0, ma1, HNX, hid ⟨HBA.out.os, HBA.out.tape, HBA.out.output, HBA.out.size, HBA.out.block⟩⟩
        · have em : (qm == mul) = false := by simp; exact hm
          have HNX := hid (wir_miss (l := nz) (k := ny) (z := z) (x := x) (y := y) HQ.out.1 (fun e => hm (HQ.out.2.1.symm.trans e)))
          go_wp2_with fail
          go_roundg (N - (t + 1))
          case measure => go_light; omega
          case rel => exact ⟨t + 1, p, by omega, rfl, rfl, by go_num, p0, p1, hid (by rw [HNX.out]; exact HP.out), HBA⟩
      · have e : t = N := by omega
        subst e
        go_wp2_with fail
        go_ret2
        exact ⟨p, 0, rfl, HX.out, fun h => absurd rfl h, fun _ => by rw [HVQ.out, HP.out, HNN.out]; rfl, HS5.out.bel.trans (HBW.out.mono HS5.out.bel.size)⟩
  · have e0 : (x' != 0) = true := by simp; exact h0
    go_wp2_with fail
    go_ret2
    exact ⟨0, x', rfl, HX.out, fun _ => rfl, fun h => absurd h h0, HS2.out.bel⟩

set_option maxHeartbeats 2000000 in
set_option maxRecDepth 100000 in
theorem step_any (c : CQ) (g : Int) (ao : Option Addr) (n cap : Nat) (A : Nat → Option Addr) (C : Nat → Nat) (i : Int) (az ax ay : Option Addr) (nz cz nx cx ny cy : Nat) (z x y : Nat → Int) (ux uy : Int) (w : World) (hg : c.log = g) (hn : c.layers.length = n) (hr : CRow w ao c.layers A C)
    (pz : PRow w az nz z) (px : PRow w ax nx x) (py : PRow w ay ny y) (vz : Nums z) (vx : Nums x) (vy : Nums y) (u0 : 0 ≤ ux) (u1 : ux ≤ 18446744073709551615) (u2 : 0 ≤ uy) (u3 : uy ≤ 18446744073709551615) :
    Calls Tryd.prog 18 #[.agg #[.int .i64 g, .slice ao n cap], .int .i64 i, .slice az nz cz, .slice ax nx cx, .slice ay ny cy, .int .u64 ux, .int .u64 uy] w fun e w' => ∃ v x', e = .returned (.tuple #[.int .u64 v, .int .i64 x']) ∧ askE c i nz nx ny x' ∧ (x' ≠ 0 → v = 0) ∧ (x' = 0 → v = wspQ c i z x y ux uy) ∧ Below w.heap.size w w' := by
  have HR := hid hr
  have HG := hid hg
  have HN := hid hn
  have HPZ := hid pz
  have HPX := hid px
  have HPY := hid py
  have HV := hid (And.intro vz (And.intro vx vy))
  have HS0 := hid (StW.start w g (.slice ao n cap) 46)
  clear hr hg hn pz px py vz vx vy
  go_enter Tryd.func18, Tryd.ntmps18
  go_wp2_with fail
  obtain ⟨B, hB⟩ : ∃ B, w.heap.size = B := ⟨_, rfl⟩
  have HS1 : Hid (StW w (w.alloc (.cells #[.int .i64 g, .slice ao n cap] 46)) B g (.slice ao n cap)) := hid (by rw [← hB]; exact HS0.out)
  rw [hB]
  clear hB HS0
  generalize w.alloc (.cells #[.int .i64 g, .slice ao n cap] 46) = W1 at HS1 ⊢
  refine (value_any c g ao n cap A C i false az ax ay nz cz nx cx ny cy z x y W1 HG.out HN.out (HR.out.kept HS1.out.bel) (HPZ.out.kept HS1.out.bel) (HPX.out.kept HS1.out.bel) (HPY.out.kept HS1.out.bel) HV.out.1 HV.out.2.1 HV.out.2.2).mono ?_
  rintro e w1 ⟨v1, x', rfl, hx, hv0, hv1, hb⟩
  have HX := hid hx
  have HV1 := hid hv1
  have HS2 := hid (HS1.out.next hb)
  clear hb hx HS1 hv0 hv1
  obtain ⟨z0, z1, zl⟩ := HS2.out.box
  by_cases h0 : x' = 0
  · subst h0
    have HVA := hid (HV1.out rfl)
    clear HV1
    go_wp2_with fail
    refine (value_any c g ao n cap A C i true az ax ay nz cz nx cx ny cy z x y w1 HG.out HN.out (HR.out.kept HS2.out.bel) (HPZ.out.kept HS2.out.bel) (HPX.out.kept HS2.out.bel) (HPY.out.kept HS2.out.bel) HV.out.1 HV.out.2.1 HV.out.2.2).mono ?_
    rintro e w2 ⟨v2, x2, rfl, hx2, _, hv2, hb⟩
    obtain rfl := askE_one hx2 HX.out
    have HVB := hid (hv2 rfl)
    have HS3 := hid (HS2.out.next hb)
    clear hb hx2 HS2 hv2 z0 z1 zl
    have hr1 := wvlQ_rng c i false z x y
    have hr2 := wvlQ_rng c i true z x y
    rw [← HVA.out] at hr1
    rw [← HVB.out] at hr2
    obtain ⟨a0, a1⟩ := hr1
    obtain ⟨b0, b1⟩ := hr2
    obtain ⟨c0, c1⟩ := addQ_rng ux uy
    obtain ⟨d0, d1⟩ := mulQ_rng ux uy
    obtain ⟨e0, e1⟩ := mulQ_rng v1 (addQ ux uy)
    obtain ⟨f0, f1⟩ := mulQ_rng v2 (mulQ ux uy)
    go_wp2_with (first | (go_at_call 52; refine (mul_any _ _ _ (by omega) (by omega) (by omega) (by omega)).mono ?_; rintro e w' ⟨rfl, hw⟩; obtain rfl := hw.symm) | (go_at_call 25; refine (add_any _ _ _ (by omega) (by omega) (by omega) (by omega)).mono ?_; rintro e w' ⟨rfl, hw⟩; obtain rfl := hw.symm))
    go_ret2
    exact ⟨_, 0, rfl, HX.out, fun h => absurd rfl h, fun _ => by rw [HVA.out, HVB.out, stp_of], HS3.out.bel⟩
  · have e0 : (x' != 0) = true := by simp; exact h0
    go_wp2_with fail
    go_ret2
    exact ⟨0, x', rfl, HX.out, fun _ => rfl, fun h => absurd h h0, HS2.out.bel⟩

end Go.Proofs.YtnnjajmkfgnhcaaDoor
