/-
  Contracts of package wiring's logBelow and check, for every circuit; they make new blocks and write nothing that was there.
-/
import Derived.Test.YtbchbmelofojkaaGreatDoorWirQ
import Derived.Test.YtbchbmelofojkaaGreatDoorCircC
namespace Go.Proofs.YtbchbmelofojkaaGreatDoor
open Go.RowKit
set_option linter.unusedVariables false
attribute [local go_sem ↓] Go.wp_at_zero Go.wp_at_succ

set_option maxHeartbeats 1000000 in
theorem lbelow_zero (g : Int) (ao : Option Addr) (n cap : Nat) (w : World) :
    Calls Tryz.prog 135 #[.agg #[.int .i64 g, .slice ao n cap], .int .i64 0] w fun e w' => e = .returned (.int .i64 g) ∧ Below w.heap.size w w' := by
  go_enter Tryz.func135, Tryz.ntmps135
  go_wp2_with fail
  go_ret
  exact ⟨rfl, (Below.refl _ w).alloc (Nat.le_refl _) _⟩
set_option maxHeartbeats 1000000 in
theorem lbelow_at (g : Int) (b off n cap i : Nat) (x : Int) (w : World) (hi : i < n) (hn : n ≤ 4) (hc : w.cell? ⟨b, off + 2 * i, none⟩ = some (.int .i64 x)) :
    Calls Tryz.prog 135 #[.agg #[.int .i64 g, .slice (some ⟨b, off, none⟩) n cap], .int .i64 ((i : Int) + 1)] w fun e w' => e = .returned (.int .i64 x) ∧ Below w.heap.size w w' := by
  have hb : b < w.heap.size := World.block_lt_of_cell? w _ hc
  have hc2 : ∀ o, (w.alloc o).cell? ⟨b, off + i * 2, none⟩ = some (.int .i64 x) := fun o => by rw [Nat.mul_comm i 2, World.cell?_alloc_old _ _ _ (Nat.ne_of_lt hb)]; exact hc
  have k0 : ¬ ((i : Int) + 1 = 0) := by omega
  have k1 : (((i : Int) + 1) == 0) = false := beq_eq_false_iff_ne.2 k0
  have k2 : (0 : Int) ≤ (i : Int) := by omega
  have k3 : (i : Int) < (n : Int) := by omega
  clear hc
  go_enter Tryz.func135, Tryz.ntmps135
  go_wp2_with fail
  go_ret
  exact ⟨rfl, (Below.refl _ w).alloc (Nat.le_refl _) _⟩
theorem lbelow_any (c : CQ) (g : Int) (b off n cap i : Nat) (A : Nat → Option Addr) (C : Nat → Nat) (w : World) (hg : c.log = g) (hn : c.layers.length = n) (n4 : n ≤ 4) (hi : i ≤ n) (hr : CRow w (some ⟨b, off, none⟩) c.layers A C) :
    Calls Tryz.prog 135 #[.agg #[.int .i64 g, .slice (some ⟨b, off, none⟩) n cap], .int .i64 (i : Int)] w fun e w' => e = .returned (.int .i64 (belowQ c i)) ∧ Below w.heap.size w w' := by
  cases i with
  | zero => rw [show belowQ c 0 = g from hg]; exact lbelow_zero g _ n cap w
  | succ i =>
    have hlt : i < c.layers.length := by omega
    obtain ⟨l, hl⟩ : ∃ l, c.layers[i]? = some l := ⟨c.layers[i], by simp [hlt]⟩
    obtain ⟨b', off', e, hc⟩ := hr (by intro e; rw [e] at hlt; simp at hlt)
    cases e
    rw [show belowQ c (i + 1) = l.log from by rw [belowQ, hl]; rfl, show ((i + 1 : Nat) : Int) = (i : Int) + 1 from by omega]
    exact lbelow_at g b off n cap i l.log w (by omega) n4 (hc i l hl).1

/-- What holds of the world all along: the circuit's box, and that nothing was written. -/
structure StW (w W : World) (B : Nat) (g : Int) (v : Value) : Prop where
  bel : Below w.heap.size w W
  box : Box2 W B (.int .i64 g) v
theorem StW.next {w W W' : World} {B : Nat} {g : Int} {v : Value} (h : StW w W B g v) (hb : Below W.heap.size W W') : StW w W' B g v := ⟨h.bel.trans (hb.mono h.bel.size), h.box.kept hb⟩
theorem StW.start (w : World) (g : Int) (v : Value) (t : TypeId) : StW w (w.alloc (.cells #[.int .i64 g, v] t)) w.heap.size g v := ⟨(Below.refl _ w).alloc (Nat.le_refl _) _, Box2.new w _ _ _⟩
theorem ask_no {c : CQ} {i : Int} {nz nx ny n : Nat} (hn : c.layers.length = n) (h : ¬ (0 ≤ i ∧ i < (n : Int))) : ¬ ∃ k l, askOk c i nz nx ny k l := by
  rintro ⟨k, l, rfl, hl, _⟩
  obtain ⟨hk, _⟩ := List.getElem?_eq_some_iff.1 hl
  omega

set_option maxHeartbeats 2000000 in
set_option maxRecDepth 100000 in
theorem wchk_any (c : CQ) (g : Int) (ao : Option Addr) (n cap : Nat) (A : Nat → Option Addr) (C : Nat → Nat) (i : Int) (az ax ay : Option Addr) (nz cz nx cx ny cy : Nat) (w : World) (hg : c.log = g) (hn : c.layers.length = n) (hr : CRow w ao c.layers A C) :
    Calls Tryz.prog 130 #[.agg #[.int .i64 g, .slice ao n cap], .int .i64 i, .slice az nz cz, .slice ax nx cx, .slice ay ny cy] w fun e w' => ∃ x, e = .returned (.int .i64 x) ∧ askE c i nz nx ny x ∧ Below w.heap.size w w' := by
  have HR := hid hr
  have HG := hid hg
  have HN := hid hn
  have HS0 := hid (StW.start w g (.slice ao n cap) 25)
  clear hr hg hn
  go_enter Tryz.func130, Tryz.ntmps130
  go_wp2_with fail
  obtain ⟨B, hB⟩ : ∃ B, w.heap.size = B := ⟨_, rfl⟩
  have HS1 : Hid (StW w (w.alloc (.cells #[.int .i64 g, .slice ao n cap] 25)) B g (.slice ao n cap)) := hid (by rw [← hB]; exact HS0.out)
  rw [hB]
  clear hB HS0
  generalize w.alloc (.cells #[.int .i64 g, .slice ao n cap] 25) = W1 at HS1 ⊢
  refine (check_any c g ao n cap A C W1 HG.out HN.out (HR.out.kept HS1.out.bel)).mono ?_
  rintro e w1 ⟨x, rfl, hx, hb⟩
  have HX := hid hx
  have HS2 := hid (HS1.out.next hb)
  clear hb hx HS1
  obtain ⟨z0, z1, zl⟩ := HS2.out.box
  by_cases h0 : x = 0
  · subst h0
    have HC := hid (checkE_zero.1 HX.out)
    obtain ⟨b, off, rfl, _⟩ := HR.out HC.out.some
    have n4 : n ≤ 4 := by have := HC.out.few; rw [HN.out] at this; exact this
    by_cases hi : 0 ≤ i ∧ i < (n : Int)
    · obtain ⟨k, rfl⟩ : ∃ k : Nat, i = (k : Int) := ⟨i.toNat, by omega⟩
      have hkn : k < n := by omega
      obtain ⟨l, hl⟩ : ∃ l, c.layers[k]? = some l := ⟨c.layers[k]'(by rw [HN.out]; exact hkn), by simp⟩
      obtain ⟨b', off', eb, hcl⟩ := HR.out.kept HS2.out.bel HC.out.some
      cases eb
      have y0 := (hcl k l hl).1
      rw [Nat.mul_comm 2 k] at y0
      obtain ⟨lg, hlg⟩ : ∃ x, l.log = x := ⟨_, rfl⟩
      rw [hlg] at y0
      have HL := hid hl
      have HLG := hid hlg
      clear hcl hl hlg
      have k0 : (0 : Int) ≤ (k : Int) := by omega
      have k1 : (k : Int) < (n : Int) := by omega
      have k2 : ¬ ((k : Int) < 0) := by omega
      have k3 : ¬ ((n : Int) ≤ (k : Int)) := by omega
      have HONE : Hid (∀ k' l', askOk c (k : Int) nz nx ny k' l' → (nz : Int) = lg ∧ (nx : Int) = belowQ c k ∧ (ny : Int) = belowQ c k) := hid (by
        rintro k' l' ⟨e1, e2, e3, e4, e5⟩
        obtain rfl : k = k' := by omega
        rw [HL.out] at e2
        injection e2 with e2
        subst e2
        exact ⟨e3.trans HLG.out, e4, e5⟩)
      by_cases hz : (nz : Int) = lg
      · have z2 : ((nz : Int) != lg) = false := neq_of hz
        go_wp2_with fail
        refine (lbelow_any c g b off n cap k A C w1 HG.out HN.out n4 (by omega) (HR.out.kept HS2.out.bel)).mono ?_
        rintro e w2 ⟨rfl, hb⟩
        have HS3 := hid (HS2.out.next hb)
        obtain ⟨bl, hbl⟩ : ∃ x, belowQ c k = x := ⟨_, rfl⟩
        rw [hbl] at HONE ⊢
        have HBL := hid hbl
        have HZ := hid hz
        clear hb HS2 z0 z1 zl y0 hbl hz
        by_cases hx : (nx : Int) = bl
        · have z3 : ((nx : Int) != bl) = false := neq_of hx
          by_cases hy : (ny : Int) = bl
          · have z4 : ((ny : Int) != bl) = false := neq_of hy
            have HXY := hid (And.intro hx hy)
            clear hx hy
            go_wp2_with fail
            go_ret
            exact ⟨0, rfl, .inr (.inr ⟨HC.out, ⟨k, l, rfl, HL.out, HZ.out.trans HLG.out.symm, HXY.out.1.trans HBL.out.symm, HXY.out.2.trans HBL.out.symm⟩, rfl⟩), HS3.out.bel⟩
          · have z4 : ((ny : Int) != bl) = true := by simp; exact hy
            go_wp2_with fail
            go_ret
            exact ⟨1, rfl, .inr (.inl ⟨HC.out, fun ⟨k', l', h⟩ => hy (HONE.out k' l' h).2.2, rfl⟩), HS3.out.bel⟩
        · have z3 : ((nx : Int) != bl) = true := by simp; exact hx
          go_wp2_with fail
          go_ret
          exact ⟨1, rfl, .inr (.inl ⟨HC.out, fun ⟨k', l', h⟩ => hx (HONE.out k' l' h).2.1, rfl⟩), HS3.out.bel⟩
      · have z2 : ((nz : Int) != lg) = true := by simp; exact hz
        go_wp2_with fail
        go_ret
        exact ⟨1, rfl, .inr (.inl ⟨HC.out, fun ⟨k', l', h⟩ => hz (HONE.out k' l' h).1, rfl⟩), HS2.out.bel⟩
    · have HNO := hid (ask_no (nz := nz) (nx := nx) (ny := ny) HN.out hi)
      by_cases hi0 : i < 0
      · go_wp2_with fail
        go_ret
        exact ⟨1, rfl, .inr (.inl ⟨HC.out, HNO.out, rfl⟩), HS2.out.bel⟩
      · have hin : (n : Int) ≤ i := by omega
        go_wp2_with fail
        go_ret
        exact ⟨1, rfl, .inr (.inl ⟨HC.out, HNO.out, rfl⟩), HS2.out.bel⟩
  · have e0 : (x != 0) = true := by simp; exact h0
    go_wp2_with fail
    go_ret
    exact ⟨x, rfl, .inl ⟨HX.out, h0⟩, HS2.out.bel⟩

end Go.Proofs.YtbchbmelofojkaaGreatDoor
