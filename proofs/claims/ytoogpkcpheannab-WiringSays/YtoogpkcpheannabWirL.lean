/-
  A contract of the law WiringSays, for every circuit, every layer, all points and numbers: it answers true.
-/
import Derived.Test.YtoogpkcpheannabRefWir2
import Derived.Test.YtoogpkcpheannabWirV
namespace Go.Proofs.Ytoogpkcpheannab
open Go.RowKit
set_option linter.unusedVariables false
attribute [local go_sem ↓] Go.wp_at_zero Go.wp_at_succ

theorem ask_one {c : CQ} {k nz nx ny : Nat} {l : LQ} (hl : c.layers[k]? = some l) {k' : Nat} {l' : LQ} (h : askOk c (k : Int) nz nx ny k' l') : (nz : Int) = l.log ∧ (nx : Int) = belowQ c k ∧ (ny : Int) = belowQ c k := by
  obtain ⟨e1, e2, e3, e4, e5⟩ := h
  obtain rfl : k = k' := by omega
  rw [hl] at e2
  injection e2 with e2
  subst e2
  exact ⟨e3, e4, e5⟩

set_option maxHeartbeats 4000000 in
set_option maxRecDepth 100000 in
theorem wsays_any (c : CQ) (g : Int) (ao : Option Addr) (n cap : Nat) (A : Nat → Option Addr) (C : Nat → Nat) (i : Int) (mul : Bool) (az ax ay : Option Addr) (nz cz nx cx ny cy : Nat) (z x y : Nat → Int) (ux uy : Int) (w : World) (hg : c.log = g) (hn : c.layers.length = n) (hr : CRow w ao c.layers A C)
    (pz : PRow w az nz z) (px : PRow w ax nx x) (py : PRow w ay ny y) (vz : Nums z) (vx : Nums x) (vy : Nums y) (u0 : 0 ≤ ux) (u1 : ux ≤ 18446744073709551615) (u2 : 0 ≤ uy) (u3 : uy ≤ 18446744073709551615) :
    Calls Try.prog 5 #[.agg #[.int .i64 g, .slice ao n cap], .int .i64 i, .bool mul, .slice az nz cz, .slice ax nx cx, .slice ay ny cy, .int .u64 ux, .int .u64 uy] w fun e w' => e = .returned (.bool true) ∧ Below w.heap.size w w' := by
  have HR := hid hr
  have HG := hid hg
  have HN := hid hn
  have HPZ := hid pz
  have HPX := hid px
  have HPY := hid py
  have HV := hid (And.intro vz (And.intro vx vy))
  have HVA := hid (fun W (h : Below w.heap.size w W) => value_any c g ao n cap A C i mul az ax ay nz cz nx cx ny cy z x y W hg hn (hr.kept h) (pz.kept h) (px.kept h) (py.kept h) vz vx vy)
  have HST := hid (fun W (h : Below w.heap.size w W) => step_any c g ao n cap A C i az ax ay nz cz nx cx ny cy z x y ux uy W hg hn (hr.kept h) (pz.kept h) (px.kept h) (py.kept h) vz vx vy u0 u1 u2 u3)
  have HS0 := hid (StW.start w g (.slice ao n cap) 42)
  clear hr hg hn pz px py vz vx vy
  go_enter Try.func5, Try.ntmps5
  go_wp2_with fail
  obtain ⟨B, hB⟩ : ∃ B, w.heap.size = B := ⟨_, rfl⟩
  have HS1 : Hid (StW w (w.alloc (.cells #[.int .i64 g, .slice ao n cap] 42)) B g (.slice ao n cap)) := hid (by rw [← hB]; exact HS0.out)
  rw [hB]
  clear hB HS0
  generalize w.alloc (.cells #[.int .i64 g, .slice ao n cap] 42) = W1 at HS1 ⊢
  refine (rcirc_any c g ao n cap A C W1 HG.out HN.out (HR.out.kept HS1.out.bel)).mono ?_
  rintro e w1 ⟨x0, rfl, hx, hb⟩
  have HX := hid hx
  have HS2 := hid (HS1.out.next hb)
  clear hb hx HS1
  obtain ⟨z0, z1, zl⟩ := HS2.out.box
  by_cases h0 : x0 = 0
  · subst h0
    have HC := hid (checkE_zero.1 HX.out)
    obtain ⟨b, off, rfl, _⟩ := HR.out HC.out.some
    have n4 : n ≤ 4 := by have := HC.out.few; rw [HN.out] at this; exact this
    by_cases hi : 0 ≤ i ∧ i < (n : Int)
    · obtain ⟨k, rfl⟩ : ∃ k : Nat, i = (k : Int) := ⟨i.toNat, by omega⟩
      have hkn : k < n := by omega
      obtain ⟨l, hl⟩ : ∃ l, c.layers[k]? = some l := ⟨c.layers[k]'(by rw [HN.out]; exact hkn), by simp⟩
      obtain ⟨b', off', eb, hcl⟩ := HR.out.kept HS2.out.bel HC.out.some
      cases eb
      have y0 := (hcl k l hl).1
      rw [Nat.mul_comm 2 k] at y0
      obtain ⟨lg, hlg⟩ : ∃ x, l.log = x := ⟨_, rfl⟩
      obtain ⟨bl, hbl⟩ : ∃ x, belowQ c k = x := ⟨_, rfl⟩
      rw [hlg] at y0
      have HONE : Hid (∀ k' l', askOk c (k : Int) nz nx ny k' l' → (nz : Int) = lg ∧ (nx : Int) = bl ∧ (ny : Int) = bl) := hid (fun k' l' h => by rw [← hlg, ← hbl]; exact ask_one hl h)
      have HBEL : Hid (∀ W, Below w.heap.size w W → Calls Try.prog 17 #[.agg #[.int .i64 g, .slice (some ⟨b, off, none⟩) n cap], .int .i64 (k : Int)] W fun e w' => e = .returned (.int .i64 bl) ∧ Below W.heap.size W w') := hid (fun W h => by rw [← hbl]; exact rbelow_any c g b off n cap k A C W HG.out HN.out n4 (by omega) (HR.out.kept h))
      have HL := hid hl
      have HLG := hid hlg
      have HBL := hid hbl
      clear hcl hl hlg hbl
      have k0 : (0 : Int) ≤ (k : Int) := by omega
      have k1 : (k : Int) < (n : Int) := by omega
      have k2 : ¬ ((k : Int) < 0) := by omega
      have k3 : ¬ ((n : Int) ≤ (k : Int)) := by omega
      by_cases hz : (nz : Int) = lg
      · have q2 : ((nz : Int) != lg) = false := neq_of hz
        go_wp2_with fail
        refine (HBEL.out _ HS2.out.bel).mono ?_
        rintro e w2 ⟨rfl, hb⟩
        have HS3 := hid (HS2.out.next hb)
        have HZ := hid hz
        clear hb HS2 z0 z1 zl y0 hz
        obtain ⟨z0, z1, zl⟩ := HS3.out.box
        by_cases hx : (nx : Int) = bl
        · have q3 : ((nx : Int) != bl) = false := neq_of hx
          go_wp2_with fail
          refine (HBEL.out _ HS3.out.bel).mono ?_
          rintro e w3 ⟨rfl, hb⟩
          have HS4 := hid (HS3.out.next hb)
          have HXB := hid hx
          clear hb HS3 z0 z1 zl hx
          obtain ⟨z0, z1, zl⟩ := HS4.out.box
          by_cases hy : (ny : Int) = bl
          · have q4 : ((ny : Int) != bl) = false := neq_of hy
            have HOK : Hid (askOk c (k : Int) nz nx ny k l) := hid ⟨rfl, HL.out, HZ.out.trans HLG.out.symm, HXB.out.trans HBL.out.symm, hy.trans HBL.out.symm⟩
            have HE : Hid (askE c (k : Int) nz nx ny 0) := hid (.inr (.inr ⟨HC.out, ⟨k, l, HOK.out⟩, rfl⟩))
            obtain ⟨_, hlog, hbel, rfl, z4, x4, hlen, hgo⟩ := ask_nums HC.out HOK.out
            have HVQ : Hid (wvlQ c (k : Int) mul z x y = wirQ mul l.gates nz ny z x y) := hid (by rw [wvlQ_at HL.out, hlog, hbel, Int.toNat_natCast, Int.toNat_natCast])
            have HSQ : Hid (wspQ c (k : Int) z x y ux uy = wstQ l.gates nz ny z x y ux uy) := hid (by rw [wspQ_at HL.out, hlog, hbel, Int.toNat_natCast, Int.toNat_natCast])
            obtain ⟨b', off', eb, hcl⟩ := HR.out HC.out.some
            cases eb
            obtain ⟨_, c1, c2, _⟩ := hcl k l HL.out
            have HASK := hid (Ask.mk (w := w) (l := l) (b := b) (off := off) (n := n) (k := k) (ga := A k) (gc := C k) (az := az) (ax := ax) (ay := ay) (nz := nz) (nx := ny) (ny := ny) (N := 2 ^ nz) (M := 2 ^ ny) (z := z) (x := x) (y := y) hkn n4 rfl (Nat.le_trans (Nat.pow_le_pow_right (by omega) z4) (by decide)) (Nat.le_trans (Nat.pow_le_pow_right (by omega) x4) (by decide)) z4 x4 rfl hlen hgo (by rw [← hlen]; exact c1) c2 HPZ.out HPX.out HPY.out HV.out.1 HV.out.2.1 HV.out.2.2)
            have HWI := hid (fun W (h : Below w.heap.size w W) => rwired_ask (HASK.out.next h) g cap mul cz cx cy)
            have HSP := hid (fun W (h : Below w.heap.size w W) => rstep_ask (HASK.out.next h) g cap cz cx cy ux uy u0 u1 u2 u3)
            obtain ⟨vv, hvv⟩ : ∃ v, wirQ mul l.gates nz ny z x y = v := ⟨_, rfl⟩
            obtain ⟨vs, hvs⟩ : ∃ v, wstQ l.gates nz ny z x y ux uy = v := ⟨_, rfl⟩
            rw [hvv] at HWI HVQ
            rw [hvs] at HSP HSQ
            clear hlog hbel hlen hgo hcl c1 c2 HASK hvv hvs hy HOK HZ HXB HONE HBEL
            go_wp2_with fail
            go_region_held3 (fun W => W.cell? ⟨B, 0, none⟩ = some (.int .i64 g) ∧ W.cell? ⟨B, 1, none⟩ = some (.slice (some ⟨b, off, none⟩) n cap)) (first | assumption | exact ⟨z0, z1⟩ | exact zx | exact zy) (first
              | (go_at_call 18; refine (HWI.out _ HS4.out.bel.drew).mono ?_; rintro e w4 ⟨rfl, hb⟩; have hbA : Below w3.heap.size w3 w4 := (Below.refl _ w3).drew.trans hb; have HSX := hid (HS4.out.next hbA); have zx : w4.cell? ⟨B, 0, none⟩ = some (.int .i64 g) ∧ w4.cell? ⟨B, 1, none⟩ = some (.slice (some ⟨b, off, none⟩) n cap) := ⟨HSX.out.box.c0, HSX.out.box.c1⟩; clear hb hbA)
              | (go_at_call 19; refine (HSP.out _ HSX.out.bel).mono ?_; rintro e w5 ⟨rfl, hb⟩; have HSY := hid (HSX.out.next hb); have zy : w5.cell? ⟨B, 0, none⟩ = some (.int .i64 g) ∧ w5.cell? ⟨B, 1, none⟩ = some (.slice (some ⟨b, off, none⟩) n cap) := ⟨HSY.out.box.c0, HSY.out.box.c1⟩; clear hb))
            clear z0 z1 zl zx zy HS4 HSX HWI HSP
            obtain ⟨z0, z1, zl⟩ := HSY.out.box
            go_wp2_with fail
            refine (HVA.out _ HSY.out.bel).mono ?_
            rintro e w6 ⟨v, x', rfl, hx, _, hv, hb⟩
            obtain rfl := askE_one hx HE.out
            obtain rfl := (hv rfl).trans HVQ.out
            have HS7 := hid (HSY.out.next hb)
            clear hx hv hb HSY z0 z1 zl
            obtain ⟨z0, z1, zl⟩ := HS7.out.box
            go_wp2_with fail
            refine (HST.out _ HS7.out.bel).mono ?_
            rintro e w7 ⟨v', x', rfl, hx, _, hv, hb⟩
            obtain rfl := askE_one hx HE.out
            obtain rfl := (hv rfl).trans HSQ.out
            have HS8 := hid (HS7.out.next hb)
            clear hx hv hb HS7 z0 z1 zl
            go_wp2_with fail
            go_ret
            exact ⟨by first | rfl | simp, HS8.out.bel⟩
          · have q4 : ((ny : Int) != bl) = true := by simp; exact hy
            have HE : Hid (askE c (k : Int) nz nx ny 1) := hid (.inr (.inl ⟨HC.out, fun ⟨k', l', h⟩ => hy (HONE.out k' l' h).2.2, rfl⟩))
            clear HONE hy HBEL
            go_wp2_with fail
            refine (HVA.out _ HS4.out.bel).mono ?_
            rintro e w6 ⟨v, x', rfl, hx, hv, _, hb⟩
            obtain rfl := askE_one hx HE.out
            obtain rfl := hv (by omega)
            have HS7 := hid (HS4.out.next hb)
            clear hx hv hb HS4 z0 z1 zl
            obtain ⟨z0, z1, zl⟩ := HS7.out.box
            go_wp2_with fail
            refine (HST.out _ HS7.out.bel).mono ?_
            rintro e w7 ⟨v', x', rfl, hx, hv, _, hb⟩
            obtain rfl := askE_one hx HE.out
            obtain rfl := hv (by omega)
            have HS8 := hid (HS7.out.next hb)
            clear hx hv hb HS7 z0 z1 zl
            go_wp2_with fail
            go_ret
            exact ⟨by first | rfl | simp, HS8.out.bel⟩
        · have q3 : ((nx : Int) != bl) = true := by simp; exact hx
          have HE : Hid (askE c (k : Int) nz nx ny 1) := hid (.inr (.inl ⟨HC.out, fun ⟨k', l', h⟩ => hx (HONE.out k' l' h).2.1, rfl⟩))
          clear HONE hx HBEL
          go_wp2_with fail
          refine (HVA.out _ HS3.out.bel).mono ?_
          rintro e w6 ⟨v, x', rfl, hx, hv, _, hb⟩
          obtain rfl := askE_one hx HE.out
          obtain rfl := hv (by omega)
          have HS7 := hid (HS3.out.next hb)
          clear hx hv hb HS3 z0 z1 zl
          obtain ⟨z0, z1, zl⟩ := HS7.out.box
          go_wp2_with fail
          refine (HST.out _ HS7.out.bel).mono ?_
          rintro e w7 ⟨v', x', rfl, hx, hv, _, hb⟩
          obtain rfl := askE_one hx HE.out
          obtain rfl := hv (by omega)
          have HS8 := hid (HS7.out.next hb)
          clear hx hv hb HS7 z0 z1 zl
          go_wp2_with fail
          go_ret
          exact ⟨by first | rfl | simp, HS8.out.bel⟩
      · have q2 : ((nz : Int) != lg) = true := by simp; exact hz
        have HE : Hid (askE c (k : Int) nz nx ny 1) := hid (.inr (.inl ⟨HC.out, fun ⟨k', l', h⟩ => hz (HONE.out k' l' h).1, rfl⟩))
        clear HONE hz HBEL
        go_wp2_with fail
        refine (HVA.out _ HS2.out.bel).mono ?_
        rintro e w6 ⟨v, x', rfl, hx, hv, _, hb⟩
        obtain rfl := askE_one hx HE.out
        obtain rfl := hv (by omega)
        have HS7 := hid (HS2.out.next hb)
        clear hx hv hb HS2 z0 z1 zl
        obtain ⟨z0, z1, zl⟩ := HS7.out.box
        go_wp2_with fail
        refine (HST.out _ HS7.out.bel).mono ?_
        rintro e w7 ⟨v', x', rfl, hx, hv, _, hb⟩
        obtain rfl := askE_one hx HE.out
        obtain rfl := hv (by omega)
        have HS8 := hid (HS7.out.next hb)
        clear hx hv hb HS7 z0 z1 zl
        go_wp2_with fail
        go_ret
        exact ⟨by first | rfl | simp, HS8.out.bel⟩
    · have HE : Hid (askE c i nz nx ny 1) := hid (.inr (.inl ⟨HC.out, ask_no HN.out hi, rfl⟩))
      by_cases hi0 : i < 0
      · clear hi
        go_wp2_with fail
        refine (HVA.out _ HS2.out.bel).mono ?_
        rintro e w6 ⟨v, x', rfl, hx, hv, _, hb⟩
        obtain rfl := askE_one hx HE.out
        obtain rfl := hv (by omega)
        have HS7 := hid (HS2.out.next hb)
        clear hx hv hb HS2 z0 z1 zl
        obtain ⟨z0, z1, zl⟩ := HS7.out.box
        go_wp2_with fail
        refine (HST.out _ HS7.out.bel).mono ?_
        rintro e w7 ⟨v', x', rfl, hx, hv, _, hb⟩
        obtain rfl := askE_one hx HE.out
        obtain rfl := hv (by omega)
        have HS8 := hid (HS7.out.next hb)
        clear hx hv hb HS7 z0 z1 zl
        go_wp2_with fail
        go_ret
        exact ⟨by first | rfl | simp, HS8.out.bel⟩
      · have hin : (n : Int) ≤ i := by omega
        clear hi
        go_wp2_with fail
        refine (HVA.out _ HS2.out.bel).mono ?_
        rintro e w6 ⟨v, x', rfl, hx, hv, _, hb⟩
        obtain rfl := askE_one hx HE.out
        obtain rfl := hv (by omega)
        have HS7 := hid (HS2.out.next hb)
        clear hx hv hb HS2 z0 z1 zl
        obtain ⟨z0, z1, zl⟩ := HS7.out.box
        go_wp2_with fail
        refine (HST.out _ HS7.out.bel).mono ?_
        rintro e w7 ⟨v', x', rfl, hx, hv, _, hb⟩
        obtain rfl := askE_one hx HE.out
        obtain rfl := hv (by omega)
        have HS8 := hid (HS7.out.next hb)
        clear hx hv hb HS7 z0 z1 zl
        go_wp2_with fail
        go_ret
        exact ⟨by first | rfl | simp, HS8.out.bel⟩
  · have e0 : (x0 == 0) = false := by simp; exact h0
    have HE : Hid (askE c i nz nx ny x0) := hid (.inl ⟨HX.out, h0⟩)
    go_wp2_with fail
    refine (HVA.out _ HS2.out.bel).mono ?_
    rintro e w6 ⟨v, x', rfl, hx, hv, _, hb⟩
    obtain rfl := askE_one hx HE.out
    obtain rfl := hv h0
    have HS7 := hid (HS2.out.next hb)
    clear hx hv hb HS2 z0 z1 zl
    obtain ⟨z0, z1, zl⟩ := HS7.out.box
    go_wp2_with fail
    refine (HST.out _ HS7.out.bel).mono ?_
    rintro e w7 ⟨v', x', rfl, hx, hv, _, hb⟩
    obtain rfl := askE_one hx HE.out
    obtain rfl := hv h0
    have HS8 := hid (HS7.out.next hb)
    clear hx hv hb HS7 z0 z1 zl
    go_wp2_with fail
    go_ret
    exact ⟨by first | rfl | simp, HS8.out.bel⟩

end Go.Proofs.Ytoogpkcpheannab
