/-
  A contract of tallyref's Step, of right things; it makes new blocks and writes nothing that was there.
-/
import Derived.Test.YtoogpkcpheannabRefWir
import Derived.Test.YtoogpkcpheannabWirC
namespace Go.Proofs.Ytoogpkcpheannab
open Go.RowKit
set_option linter.unusedVariables false
attribute [local go_sem ↓] Go.wp_at_zero Go.wp_at_succ

/-- Layer k is asked at three points: all is right. -/
structure Ask (w : World) (l : LQ) (b off n k : Nat) (ga : Option Addr) (gc : Nat) (az ax ay : Option Addr) (nz nx ny N M : Nat) (z x y : Nat → Int) : Prop where
  hk : k < n
  n4 : n ≤ 4
  hN : N = 2 ^ nz
  N16 : N ≤ 16
  M16 : M ≤ 16
  z4 : nz ≤ 4
  x4 : nx ≤ 4
  hxy : ny = nx
  hlen : l.gates.length = N
  hgo : ∀ q ∈ l.gates, gateOk (M : Int) q
  hc : w.cell? ⟨b, off + 2 * k + 1, none⟩ = some (.slice ga N gc)
  hgr : GRow w ga l.gates
  pz : PRow w az nz z
  px : PRow w ax nx x
  py : PRow w ay ny y
  vz : Nums z
  vx : Nums x
  vy : Nums y
theorem Ask.next {w w' : World} {l : LQ} {b off n k : Nat} {ga : Option Addr} {gc : Nat} {az ax ay : Option Addr} {nz nx ny N M : Nat} {z x y : Nat → Int} (h : Ask w l b off n k ga gc az ax ay nz nx ny N M z x y) (hb : Below w.heap.size w w') : Ask w' l b off n k ga gc az ax ay nz nx ny N M z x y :=
  { h with hc := (hb.cell (World.block_lt_of_cell? w _ h.hc)).trans h.hc, hgr := h.hgr.kept hb, pz := h.pz.kept hb, px := h.px.kept hb, py := h.py.kept hb }
theorem rwired_ask {w : World} {l : LQ} {b off n k : Nat} {ga : Option Addr} {gc : Nat} {az ax ay : Option Addr} {nz nx ny N M : Nat} {z x y : Nat → Int} (h : Ask w l b off n k ga gc az ax ay nz nx ny N M z x y) (g : Int) (cap : Nat) (mul : Bool) (cz cx cy : Nat) :
    Calls Try.prog 18 #[.agg #[.int .i64 g, .slice (some ⟨b, off, none⟩) n cap], .int .i64 (k : Int), .bool mul, .slice az nz cz, .slice ax nx cx, .slice ay ny cy] w fun e w' => e = .returned (.int .u64 (wirQ mul l.gates nz nx z x y)) ∧ Below w.heap.size w w' :=
  rwired_ok l g b off n cap k ga gc mul az ax ay nz cz nx cx ny cy N M z x y w h.hk h.n4 h.hN h.N16 h.M16 h.z4 h.x4 h.hxy h.hlen h.hgo h.hc h.hgr h.pz h.px h.py h.vz h.vx h.vy

set_option maxHeartbeats 2000000 in
set_option maxRecDepth 100000 in
theorem rstep_ask {w : World} {l : LQ} {b off n k : Nat} {ga : Option Addr} {gc : Nat} {az ax ay : Option Addr} {nz nx ny N M : Nat} {z x y : Nat → Int} (h : Ask w l b off n k ga gc az ax ay nz nx ny N M z x y) (g : Int) (cap : Nat) (cz cx cy : Nat) (ux uy : Int) (u0 : 0 ≤ ux) (u1 : ux ≤ 18446744073709551615) (u2 : 0 ≤ uy) (u3 : uy ≤ 18446744073709551615) :
    Calls Try.prog 19 #[.agg #[.int .i64 g, .slice (some ⟨b, off, none⟩) n cap], .int .i64 (k : Int), .slice az nz cz, .slice ax nx cx, .slice ay ny cy, .int .u64 ux, .int .u64 uy] w fun e w' => e = .returned (.int .u64 (wstQ l.gates nz nx z x y ux uy)) ∧ Below w.heap.size w w' := by
  have HA := hid h
  have HS0 := hid (StW.start w g (.slice (some ⟨b, off, none⟩) n cap) 42)
  clear h
  go_enter Try.func19, Try.ntmps19
  go_wp2_with fail
  obtain ⟨B, hB⟩ : ∃ B, w.heap.size = B := ⟨_, rfl⟩
  have HS1 : Hid (StW w (w.alloc (.cells #[.int .i64 g, .slice (some ⟨b, off, none⟩) n cap] 42)) B g (.slice (some ⟨b, off, none⟩) n cap)) := hid (by rw [← hB]; exact HS0.out)
  rw [hB]
  clear hB HS0
  generalize w.alloc (.cells #[.int .i64 g, .slice (some ⟨b, off, none⟩) n cap] 42) = W1 at HS1 ⊢
  obtain ⟨va, hva⟩ : ∃ v, wirQ false l.gates nz nx z x y = v := ⟨_, rfl⟩
  obtain ⟨vb, hvb⟩ : ∃ v, wirQ true l.gates nz nx z x y = v := ⟨_, rfl⟩
  have HWA := hid (fun W (h : Below w.heap.size w W) => rwired_ask (HA.out.next h) g cap false cz cx cy)
  have HWB := hid (fun W (h : Below w.heap.size w W) => rwired_ask (HA.out.next h) g cap true cz cx cy)
  obtain ⟨a0, a1⟩ := wirQ_rng false l.gates nz nx z x y
  obtain ⟨b0, b1⟩ := wirQ_rng true l.gates nz nx z x y
  have HST := hid (wst_of l.gates nz nx z x y ux uy)
  rw [hva] at HWA a0 a1
  rw [hvb] at HWB b0 b1
  rw [hva, hvb] at HST
  clear hva hvb
  obtain ⟨c0, c1⟩ := addQ_rng ux uy
  obtain ⟨d0, d1⟩ := mulQ_rng ux uy
  obtain ⟨e0, e1⟩ := mulQ_rng va (addQ ux uy)
  obtain ⟨f0, f1⟩ := mulQ_rng vb (mulQ ux uy)
  obtain ⟨z0, z1, zl⟩ := HS1.out.box
  have mark : Hid True := hid trivial
  go_region_held3 (fun W => W.cell? ⟨B, 0, none⟩ = some (.int .i64 g) ∧ W.cell? ⟨B, 1, none⟩ = some (.slice (some ⟨b, off, none⟩) n cap)) (first | assumption | exact ⟨z0, z1⟩ | exact zx | exact zy) (first
    | (go_at_call 22; refine (radd_any _ _ _ (by omega) (by omega) (by omega) (by omega)).mono ?_; rintro e w' ⟨rfl, hw⟩; obtain rfl := hw.symm)
    | (go_at_call 33; refine (rmul_any _ _ _ (by omega) (by omega) (by omega) (by omega)).mono ?_; rintro e w' ⟨rfl, hw⟩; obtain rfl := hw.symm)
    | (go_at_call 18; first | (clear mark; refine (HWA.out _ HS1.out.bel.drew).mono ?_; rintro e w2 ⟨rfl, hb⟩; have hbA : Below W1.heap.size W1 w2 := (Below.refl _ W1).drew.trans hb; have HSX := hid (HS1.out.next hbA); have zx : w2.cell? ⟨B, 0, none⟩ = some (.int .i64 g) ∧ w2.cell? ⟨B, 1, none⟩ = some (.slice (some ⟨b, off, none⟩) n cap) := ⟨HSX.out.box.c0, HSX.out.box.c1⟩; clear hb hbA) | (refine (HWB.out _ HSX.out.bel).mono ?_; rintro e w3 ⟨rfl, hb⟩; have HSY := hid (HSX.out.next hb); have zy : w3.cell? ⟨B, 0, none⟩ = some (.int .i64 g) ∧ w3.cell? ⟨B, 1, none⟩ = some (.slice (some ⟨b, off, none⟩) n cap) := ⟨HSY.out.box.c0, HSY.out.box.c1⟩; clear hb)))
  go_wp2_with fail
  go_ret
  exact ⟨ret_u64 HST.out, HSY.out.bel⟩

end Go.Proofs.Ytoogpkcpheannab
