/-
  Contracts of tallyref's Need and line, of right things; they make new rows and write nothing that was there.
-/
import Derived.Test.YtmhifjdgfhgajacDoorGkrQ
import Derived.Test.YtmhifjdgfhgajacDoorRefC2
import Derived.Test.YtmhifjdgfhgajacDoorRefVal
import Derived.Test.YtmhifjdgfhgajacDoorWirC
import Derived.Deep.RegionHeld3
namespace Go.Proofs.YtmhifjdgfhgajacDoor
open Go.RowKit
set_option linter.unusedVariables false
attribute [local go_sem ↓] Go.wp_at_zero Go.wp_at_succ

set_option maxHeartbeats 2000000 in
set_option maxRecDepth 100000 in
theorem rneed_any (c : CQ) (g : Int) (b off n cap : Nat) (A : Nat → Option Addr) (C : Nat → Nat) (w : World) (hg : c.log = g) (hn : c.layers.length = n) (hr : CRow w (some ⟨b, off, none⟩) c.layers A C) (hc : c.right) :
    Calls Tryd.prog 11 #[.agg #[.int .i64 g, .slice (some ⟨b, off, none⟩) n cap]] w fun e w' => e = .returned (.int .i64 (needQ c : Int)) ∧ Below w.heap.size w w' := by
  have n4 : n ≤ 4 := by have := hc.few; omega
  have n1 : 1 ≤ n := by have := List.length_pos_iff.2 hc.some; omega
  obtain ⟨m, rfl⟩ : ∃ m, n = m + 1 := ⟨n - 1, by omega⟩
  obtain ⟨l, hl⟩ : ∃ l, c.layers[m]? = some l := ⟨c.layers[m]'(by omega), by simp⟩
  obtain ⟨lz, hlz⟩ : ∃ x : Nat, l.log = (x : Int) := ⟨l.log.toNat, by have := (hc.layer m l hl).1; omega⟩
  have lz4 : lz ≤ 4 := by have := (hc.layer m l hl).1; omega
  have HL0 : Hid ((partsQ c).lg 0 = lz) := hid (by
    show (belowQ c (c.layers.length - 0)).toNat = lz
    rw [hn, Nat.sub_zero, belowQ, hl]
    show l.log.toNat = lz
    rw [hlz, Int.toNat_natCast])
  have HNP := hid (needP_le hc)
  have HR := hid hr
  have HG := hid hg
  have HN := hid hn
  have HC := hid hc
  have HS0 := hid (StW.start w g (.slice (some ⟨b, off, none⟩) (m + 1) cap) 24)
  obtain ⟨b', off', eb, hcl⟩ := hr hc.some
  cases eb
  have y0 := (hcl m l hl).1
  have yb : b < w.heap.size := World.block_lt_of_cell? w _ y0
  rw [Nat.mul_comm 2 m, hlz] at y0
  have y0' : ∀ o, (w.alloc o).cell? ⟨b, off + m * 2, none⟩ = some (.int .i64 (lz : Int)) := fun o => by rw [World.cell?_alloc_old _ _ _ (Nat.ne_of_lt yb)]; exact y0
  have m0 : (0 : Int) ≤ (m : Int) := by omega
  have m1 : (m : Int) < (m : Int) + 1 := by omega
  clear hr hg hn hc hcl hl hlz y0 yb
  go_enter Tryd.func11, Tryd.ntmps11
  go_wp2_with fail
  clear y0' m0 m1
  obtain ⟨B, hB⟩ : ∃ B, w.heap.size = B := ⟨_, rfl⟩
  have HS1 : Hid (StW w (w.alloc (.cells #[.int .i64 g, .slice (some ⟨b, off, none⟩) (m + 1) cap] 24)) B g (.slice (some ⟨b, off, none⟩) (m + 1) cap)) := hid (by rw [← hB]; exact HS0.out)
  rw [hB]
  clear hB HS0
  generalize w.alloc (.cells #[.int .i64 g, .slice (some ⟨b, off, none⟩) (m + 1) cap] 24) = W1 at HS1 ⊢
  go_loopg [3, 4] (m + 1) (fun q s i wr => ∃ (t p : Nat), t ≤ m + 1 ∧ q = m + 1 - t ∧ s = .int .i64 (p : Int) ∧ i = .int .i64 (t : Int) ∧ p ≤ 4 + 9 * t ∧ Hid (p = lz + needP c t) ∧ Hid (StW w wr B g (.slice (some ⟨b, off, none⟩) (m + 1) cap)))
  case atStart => exact ⟨0, lz, by omega, rfl, rfl, rfl, by omega, hid rfl, HS1⟩
  case round =>
    clear HS1
    obtain ⟨t, p, ht, rfl, rfl, rfl, hp, HP, HS⟩ := hrel
    obtain ⟨z0, z1, zl⟩ := HS.out.box
    by_cases htl : t < m + 1
    · obtain ⟨bk, hbk, bk4⟩ := belowQ_rng HC.out t
      have HBE : Hid (∀ W, Below w.heap.size w W → Calls Tryd.prog 22 #[.agg #[.int .i64 g, .slice (some ⟨b, off, none⟩) (m + 1) cap], .int .i64 (t : Int)] W fun e w' => e = .returned (.int .i64 (bk : Int)) ∧ Below W.heap.size W w') := hid (fun W h => by rw [← hbk]; exact rbelow_any c g b off (m + 1) cap t A C W HG.out HN.out n4 (by omega) (HR.out.kept h))
      have HNX : Hid (p + 2 * bk + 1 = lz + needP c (t + 1)) := hid (by rw [HP.out, needP, hbk, Int.toNat_natCast]; omega)
      have t1 : (t : Int) < (m : Int) + 1 := by omega
      have iw1 : IntKind.i64.wrap ((bk : Int) + (bk : Int)) = (bk : Int) + (bk : Int) := IntWalk.i64_in _ (by omega)
      have iw2 : IntKind.i64.wrap ((bk : Int) + (bk : Int) + 1) = (bk : Int) + (bk : Int) + 1 := IntWalk.i64_in _ (by omega)
      have iw3 : IntKind.i64.wrap ((p : Int) + ((bk : Int) + (bk : Int) + 1)) = (p : Int) + ((bk : Int) + (bk : Int) + 1) := IntWalk.i64_in _ (by omega)
      clear hbk
      have mark : Hid True := hid trivial
      go_wp2_with fail
      go_region_held3 (fun W => W.cell? ⟨B, 0, none⟩ = some (.int .i64 g) ∧ W.cell? ⟨B, 1, none⟩ = some (.slice (some ⟨b, off, none⟩) (m + 1) cap)) (first | assumption | exact ⟨z0, z1⟩ | exact zx | exact zy) (first
        | (go_at_call 22; first | (clear mark; refine (HBE.out _ HS.out.bel.drew).mono ?_; rintro e w2 ⟨rfl, hb⟩; have hbA : Below wr.heap.size wr w2 := (Below.refl _ wr).drew.trans hb; have HSX := hid (HS.out.next hbA); have zx : w2.cell? ⟨B, 0, none⟩ = some (.int .i64 g) ∧ w2.cell? ⟨B, 1, none⟩ = some (.slice (some ⟨b, off, none⟩) (m + 1) cap) := ⟨HSX.out.box.c0, HSX.out.box.c1⟩; clear hb hbA) | (refine (HBE.out _ HSX.out.bel).mono ?_; rintro e w3 ⟨rfl, hb⟩; have HSY := hid (HSX.out.next hb); have zy : w3.cell? ⟨B, 0, none⟩ = some (.int .i64 g) ∧ w3.cell? ⟨B, 1, none⟩ = some (.slice (some ⟨b, off, none⟩) (m + 1) cap) := ⟨HSY.out.box.c0, HSY.out.box.c1⟩; clear hb)))
      clear z0 z1 zl zx zy HSX iw1 iw2 iw3
      go_wp2_with fail
      go_roundg (m + 1 - (t + 1))
      case measure => go_light; omega
      case rel => exact ⟨t + 1, p + 2 * bk + 1, by omega, rfl, by go_num, by go_num, by omega, HNX, HSY⟩
    · have e : t = m + 1 := by omega
      have HFIN : Hid ((p : Int) = (needQ c : Int)) := hid (by rw [need_is, HL0.out, HN.out, ← e, ← HP.out])
      have t1 : ¬ ((t : Int) < (m : Int) + 1) := by omega
      clear e
      go_wp2_with fail
      go_ret
      exact ⟨by rw [HFIN.out]; rfl, HS.out.bel⟩

set_option maxHeartbeats 2000000 in
set_option maxRecDepth 100000 in
theorem rline_any (ax ay : Option Addr) (n cx cy : Nat) (x y : Nat → Int) (s : Int) (w : World) (hn : n ≤ 1000) (px : PRow w ax n x) (py : PRow w ay n y) (vx : Nums x) (vy : Nums y) (s0 : 0 ≤ s) (s1 : s ≤ 18446744073709551615) :
    Calls Tryd.prog 39 #[.slice ax n cx, .slice ay n cy, .int .u64 s] w fun e w' => ∃ v, e = .returned v ∧ Own w' w.heap.size v n (linQ x y s) ∧ Below w.heap.size w w' := by
  obtain ⟨i0, hi, hz0, hz1, hz2⟩ := info_parts Tryd.infoO
  have HI := hid (And.intro hi (And.intro hz0 (And.intro hz1 hz2)))
  clear hi hz0 hz1 hz2
  have HPX := hid px
  have HPY := hid py
  have HV := hid (And.intro vx vy)
  clear px py vx vy
  go_enter Tryd.func39, Tryd.ntmps39
  go_wp2_with fail
  obtain ⟨E, hE⟩ : ∃ E, w.heap.size = E := ⟨_, rfl⟩
  have HEE := hid hE
  clear hE
  go_loopg [7, 8] n (fun q o i wr => ∃ (t : Nat) (v : Value), t ≤ n ∧ q = n - t ∧ o = v ∧ i = .int .i64 (t : Int) ∧ Hid (Own wr E v t (linQ x y s)) ∧ Hid (Below E w wr))
  case atStart => exact ⟨0, _, by omega, rfl, rfl, rfl, hid (Own.nil _ _ _), hid (Below.refl _ _)⟩
  case round =>
    obtain ⟨t, v, ht, rfl, hv, rfl, HO, HB⟩ := hrel
    obtain rfl := hv.symm
    have hs : E ≤ wr.heap.size := by have h1 := HB.out.size; have h2 := HEE.out; omega
    by_cases htl : t < n
    · have hbw : Below w.heap.size w wr := by rw [HEE.out]; exact HB.out
      obtain ⟨bx, ox, rfl, hrx⟩ := HPX.out (by omega)
      obtain ⟨by', oy, rfl, hry⟩ := HPY.out (by omega)
      have lx : bx < E := by rw [← HEE.out]; exact hrx.lt (by omega)
      have ly : by' < E := by rw [← HEE.out]; exact hry.lt (by omega)
      have cx1 := (hrx.kept HB.out lx) t htl
      have cy1 := (hry.kept HB.out ly) t htl
      obtain ⟨a, ha⟩ : ∃ a, x t = a := ⟨_, rfl⟩
      obtain ⟨d, hd⟩ : ∃ a, y t = a := ⟨_, rfl⟩
      obtain ⟨a0, a1⟩ := HV.out.1 t
      obtain ⟨d0, d1⟩ := HV.out.2 t
      rw [ha] at cx1 a0 a1
      rw [hd] at cy1 d0 d1
      obtain ⟨z, hz⟩ : ∃ z, addQ a (mulQ s (subQ d a)) = z := ⟨_, rfl⟩
      have HZ : Hid (linQ x y s t = z) := hid (by rw [linQ, ha, hd, hz])
      have HSU := hid (fun W => rsub_any d a W (by omega) (by omega) (by omega) (by omega))
      obtain ⟨q1, q2⟩ := subQ_rng d a
      obtain ⟨q3, q4⟩ := mulQ_rng s (subQ d a)
      have HAD := hid (fun W => radd_any a (mulQ s (subQ d a)) W (by omega) (by omega) (by omega) (by omega))
      have HMU := hid (fun W => rmul_any s (subQ d a) W (by omega) (by omega) (by omega) (by omega))
      rw [hz] at HAD
      clear ha hd hz hrx hry hbw
      have t0 : (0 : Int) ≤ (t : Int) := by omega
      have t1 : (t : Int) < (n : Int) := by omega
      have HNE : Hid (some bx ≠ v.ownBlock ∧ some by' ≠ v.ownBlock) := hid ⟨fun e => by have := (World.ownsRow.lt HO.out bx e.symm).1; omega, fun e => by have := (World.ownsRow.lt HO.out by' e.symm).1; omega⟩
      have sx : bx < wr.heap.size := by omega
      have sy : by' < wr.heap.size := by omega
      have HS4 := hid (And.intro cx1 cy1)
      have HK : Hid (∀ o, (wr.alloc o).cell? ⟨bx, ox + t, none⟩ = some (.int .u64 a) ∧ (wr.alloc o).cell? ⟨by', oy + t, none⟩ = some (.int .u64 d)) := hid fun o => ⟨by rw [World.cell?_alloc_old _ _ _ (Nat.ne_of_lt sx)]; exact HS4.out.1, by rw [World.cell?_alloc_old _ _ _ (Nat.ne_of_lt sy)]; exact HS4.out.2⟩
      go_wp2_with fail
      go_region_held3 (fun w' => w'.cell? ⟨bx, ox + t, none⟩ = some (.int .u64 a) ∧ w'.cell? ⟨by', oy + t, none⟩ = some (.int .u64 d)) (first | assumption | exact HS4.out | exact HK.out _ | exact hk3) (first
        | (go_at_call 75; refine (HSU.out _).mono ?_; rintro e w' ⟨rfl, hw⟩; obtain rfl := hw.symm)
        | (go_at_call 58; refine (HMU.out _).mono ?_; rintro e w' ⟨rfl, hw⟩; obtain rfl := hw.symm)
        | (go_at_call 36; refine (HAD.out _).mono ?_; rintro e w' ⟨rfl, hw⟩; obtain rfl := hw.symm)
        | (refine step_append_lies _ (by rfl) _ _ 25 (by rfl) E 53 i0 (.int .u64 0) 1 8 Tryd.underlying25 HI.out.1 HI.out.2.1 HI.out.2.2.1 HI.out.2.2.2 rfl (by decide) v t (cellsOf t (linQ x y s)) (by rfl) (World.ownsRow.alloc HO.out _) ⟨wr.heap.size, 0, none⟩ 1 1 [.int .u64 z] (by rfl) (by rfl) (vnews wr z _) (vone z) (by omega) (by unfold maxLen; omega) (by omega) (by simp; omega) (wr.heap.size + 1) (by simp) ?_; intro g2' c2' w6 hown2 hgrow2 hat2 hlt2; have hk3 : w6.cell? ⟨bx, ox + t, none⟩ = some (.int .u64 a) ∧ w6.cell? ⟨by', oy + t, none⟩ = some (.int .u64 d) := ⟨grown_cell hgrow2 HNE.out.1 sx HS4.out.1, grown_cell hgrow2 HNE.out.2 sy HS4.out.2⟩))
      have HS := hid (vsnoc HB.out hs HO.out hown2 (grown_undrew hgrow2) HZ.out)
      clear hown2 hgrow2 hat2 hlt2
      go_wp2_with fail
      go_roundg (n - (t + 1))
      case measure => go_light; omega
      case rel => exact ⟨t + 1, _, by omega, rfl, rfl, by go_num, hid HS.out.1, hid HS.out.2⟩
    · have e : t = n := by omega
      subst e
      go_wp2_with fail
      go_ret
      exact ⟨_, rfl, by rw [HEE.out]; exact HO.out, by rw [HEE.out]; exact HB.out⟩

end Go.Proofs.YtmhifjdgfhgajacDoor
