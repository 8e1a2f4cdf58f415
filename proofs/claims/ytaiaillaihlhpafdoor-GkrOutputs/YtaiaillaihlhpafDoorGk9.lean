/-
  Contracts of package gkr's Draws and Form, of every circuit and every proof; they make new rows and write nothing that was there.
-/
import Derived.Test.YtaiaillaihlhpafDoorGk1
import Derived.Test.YtaiaillaihlhpafDoorGk2
import Derived.Test.YtaiaillaihlhpafDoorPrf
import Derived.Test.YtaiaillaihlhpafDoorCircC
namespace Go.Proofs.YtaiaillaihlhpafDoor
open Go.RowKit
set_option linter.unusedVariables false
attribute [local go_sem ↓] Go.wp_at_zero Go.wp_at_succ

theorem right_addr {c : CQ} (hc : c.right) {w : World} {ao : Option Addr} {A : Nat → Option Addr} {C : Nat → Nat} (hr : CRow w ao c.layers A C) : ∃ b off, ao = some ⟨b, off, none⟩ := by
  obtain ⟨b, off, e, _⟩ := hr hc.some
  exact ⟨b, off, e⟩
set_option maxHeartbeats 2000000 in
set_option maxRecDepth 100000 in
theorem draws_bad (c : CQ) (g : Int) (ao : Option Addr) (n cap : Nat) (A : Nat → Option Addr) (C : Nat → Nat) (x : Int) (w : World) (hg : c.log = g) (hn : c.layers.length = n) (hr : CRow w ao c.layers A C) (hx : checkE c x) (hx0 : x ≠ 0) :
    Calls Tryd.prog 18 #[.agg #[.int .i64 g, .slice ao n cap]] w fun e w' => e = .returned (.tuple #[.int .i64 0, .int .i64 x]) ∧ Below w.heap.size w w' := by
  have HS0 := hid (StW.start w g (.slice ao n cap) 24)
  have HC : Hid (∀ W, Below w.heap.size w W → Calls Tryd.prog 26 #[.agg #[.int .i64 g, .slice ao n cap]] W fun e w' => e = .returned (.int .i64 x) ∧ Below W.heap.size W w') := hid (fun W h => (check_any c g ao n cap A C W hg hn (hr.kept h)).mono fun e w' ⟨y, he, hy, hb⟩ => ⟨by rw [he, checkE_one hy hx], hb⟩)
  have e1 : (x != 0) = true := by simp [hx0]
  clear hr hg hn hx hx0
  go_enter Tryd.func18, Tryd.ntmps18
  go_wp2_with fail
  refine (HC.out _ HS0.out.bel).mono ?_
  rintro e w1 ⟨rfl, hb⟩
  have HB := hid (HS0.out.bel.trans (hb.mono HS0.out.bel.size))
  clear hb
  go_wp2_with fail
  go_ret2
  exact ⟨rfl, HB.out⟩
set_option maxHeartbeats 2000000 in
set_option maxRecDepth 100000 in
theorem draws_ok (c : CQ) (g : Int) (b off n cap : Nat) (A : Nat → Option Addr) (C : Nat → Nat) (w : World) (hg : c.log = g) (hn : c.layers.length = n) (hr : CRow w (some ⟨b, off, none⟩) c.layers A C) (hc : c.right) :
    Calls Tryd.prog 18 #[.agg #[.int .i64 g, .slice (some ⟨b, off, none⟩) n cap]] w fun e w' => e = .returned (.tuple #[.int .i64 (needQ c : Int), .int .i64 0]) ∧ Below w.heap.size w w' := by
  have HS0 := hid (StW.start w g (.slice (some ⟨b, off, none⟩) n cap) 24)
  have HC : Hid (∀ W, Below w.heap.size w W → Calls Tryd.prog 26 #[.agg #[.int .i64 g, .slice (some ⟨b, off, none⟩) n cap]] W fun e w' => e = .returned (.int .i64 0) ∧ Below W.heap.size W w') := hid (fun W h => (check_any c g _ n cap A C W hg hn (hr.kept h)).mono fun e w' ⟨y, he, hy, hb⟩ => ⟨by rw [he, checkE_one hy (checkE_zero.2 hc)], hb⟩)
  have HD := hid (fun W (h : Below w.heap.size w W) => cdraws_any c g b off n cap A C W hg hn (hr.kept h) hc)
  generalize needQ c = q at HD ⊢
  clear hr hg hn hc
  go_enter Tryd.func18, Tryd.ntmps18
  go_wp2_with fail
  obtain ⟨B, hB⟩ : ∃ B, w.heap.size = B := ⟨_, rfl⟩
  have HS1 : Hid (StW w (w.alloc (.cells #[.int .i64 g, .slice (some ⟨b, off, none⟩) n cap] 24)) B g (.slice (some ⟨b, off, none⟩) n cap)) := hid (by rw [← hB]; exact HS0.out)
  rw [hB]
  clear hB HS0
  generalize w.alloc (.cells #[.int .i64 g, .slice (some ⟨b, off, none⟩) n cap] 24) = W1 at HS1 ⊢
  refine (HC.out _ HS1.out.bel).mono ?_
  rintro e w1 ⟨rfl, hb⟩
  have HS2 := hid (HS1.out.next hb)
  clear hb HS1 HC
  obtain ⟨z0, z1, zl⟩ := HS2.out.box
  go_wp2_with fail
  refine (HD.out _ HS2.out.bel).mono ?_
  rintro e w2 ⟨rfl, hb⟩
  have HS3 := hid (HS2.out.next hb)
  clear hb HS2 HD z0 z1 zl
  go_wp2_with fail
  go_ret2
  exact ⟨rfl, HS3.out.bel⟩

/-- What holds all along: the circuit's box, the proof's box, and that nothing was written. -/
structure StQ (w W : World) (X : Nat) (g : Int) (v vp : Value) : Prop where
  bel : Below w.heap.size w W
  box : Box2 W X (.int .i64 g) v
  pc : W.cell? ⟨X + 1, 0, none⟩ = some vp
theorem StQ.next {w W W' : World} {X : Nat} {g : Int} {v vp : Value} (h : StQ w W X g v vp) (hb : Below W.heap.size W W') : StQ w W' X g v vp := ⟨h.bel.trans (hb.mono h.bel.size), h.box.kept hb, (hb.cell (World.block_lt_of_cell? W _ h.pc)).trans h.pc⟩
theorem StQ.start (w : World) (g : Int) (v vp : Value) (t t' : TypeId) : StQ w ((w.alloc (.cells #[.int .i64 g, v] t)).alloc (.cells #[vp] t')) w.heap.size g v vp := by
  have h1 := StW.start w g v t
  have e : (w.alloc (.cells #[.int .i64 g, v] t)).heap.size = w.heap.size + 1 := by simp
  generalize w.alloc (.cells #[.int .i64 g, v] t) = W1 at h1 e
  have hal := (Below.refl W1.heap.size W1).alloc (Nat.le_refl _) (.cells #[vp] t')
  have h2 := h1.next hal
  exact ⟨h2.bel, h2.box, by rw [← e, World.cell?_alloc_new]; rfl⟩
/-- Form's error. -/
def formE (c : CQ) (p : PQ) (x : Int) : Prop := (checkE c x ∧ x ≠ 0) ∨ (c.right ∧ shapedQ c p ∧ x = 0) ∨ (c.right ∧ ¬ shapedQ c p ∧ x = 4)

set_option maxHeartbeats 2000000 in
set_option maxRecDepth 100000 in
theorem form_bad (c : CQ) (g : Int) (ao : Option Addr) (n cap : Nat) (A : Nat → Option Addr) (C : Nat → Nat) (ap : Option Addr) (np cp : Nat) (x : Int) (w : World) (hg : c.log = g) (hn : c.layers.length = n) (hr : CRow w ao c.layers A C) (hx : checkE c x) (hx0 : x ≠ 0) :
    Calls Tryd.prog 20 #[.agg #[.int .i64 g, .slice ao n cap], .agg #[.slice ap np cp]] w fun e w' => e = .returned (.int .i64 x) ∧ Below w.heap.size w w' := by
  have HS0 := hid (StQ.start w g (.slice ao n cap) (.slice ap np cp) 24 51)
  have HC : Hid (∀ W, Below w.heap.size w W → Calls Tryd.prog 26 #[.agg #[.int .i64 g, .slice ao n cap]] W fun e w' => e = .returned (.int .i64 x) ∧ Below W.heap.size W w') := hid (fun W h => (check_any c g ao n cap A C W hg hn (hr.kept h)).mono fun e w' ⟨y, he, hy, hb⟩ => ⟨by rw [he, checkE_one hy hx], hb⟩)
  have e1 : (x != 0) = true := by simp [hx0]
  clear hr hg hn hx hx0
  go_enter Tryd.func20, Tryd.ntmps20
  go_wp2_with fail
  refine (HC.out _ HS0.out.bel).mono ?_
  rintro e w1 ⟨rfl, hb⟩
  have HB := hid (HS0.out.bel.trans (hb.mono HS0.out.bel.size))
  clear hb
  go_wp2_with fail
  go_ret
  exact ⟨rfl, HB.out⟩

set_option maxHeartbeats 4000000 in
set_option maxRecDepth 100000 in
theorem form_right (c : CQ) (g : Int) (b off n cap : Nat) (A : Nat → Option Addr) (C : Nat → Nat) (ap : Option Addr) (np cp : Nat) (p : PQ) (m : PM) (w : World) (hg : c.log = g) (hn : c.layers.length = n) (hr : CRow w (some ⟨b, off, none⟩) c.layers A C) (hc : c.right) (hp : p.n = np) (hpr : PfRow w ap p m) :
    Calls Tryd.prog 20 #[.agg #[.int .i64 g, .slice (some ⟨b, off, none⟩) n cap], .agg #[.slice ap np cp]] w fun e w' => ∃ x, e = .returned (.int .i64 x) ∧ formE c p x ∧ Below w.heap.size w w' := by
  have n4 : n ≤ 4 := by have := hc.few; omega
  have HS0 := hid (StQ.start w g (.slice (some ⟨b, off, none⟩) n cap) (.slice ap np cp) 24 51)
  have HCK : Hid (∀ W, Below w.heap.size w W → Calls Tryd.prog 26 #[.agg #[.int .i64 g, .slice (some ⟨b, off, none⟩) n cap]] W fun e w' => e = .returned (.int .i64 0) ∧ Below W.heap.size W w') := hid (fun W h => (check_any c g _ n cap A C W hg hn (hr.kept h)).mono fun e w' ⟨y, he, hy, hb⟩ => ⟨by rw [he, checkE_one hy (checkE_zero.2 hc)], hb⟩)
  have HLG := hid (fun W (h : Below w.heap.size w W) => logs_any c g b off n cap A C W hg hn n4 (hr.kept h))
  have HC := hid hc
  have HN := hid hn
  have HP := hid hp
  have HPR := hid hpr
  clear hr hg hn hc hp hpr
  go_enter Tryd.func20, Tryd.ntmps20
  go_wp2_with fail
  obtain ⟨X, hX⟩ : ∃ X, w.heap.size = X := ⟨_, rfl⟩
  rw [hX] at HS0
  rw [hX]
  clear hX
  generalize (w.alloc (.cells #[.int .i64 g, .slice (some ⟨b, off, none⟩) n cap] 24)).alloc (.cells #[.slice ap np cp] 51) = W0 at HS0 ⊢
  refine (HCK.out _ HS0.out.bel).mono ?_
  rintro e w1 ⟨rfl, hb⟩
  have HS1 := hid (HS0.out.next hb)
  clear hb HS0 HCK
  obtain ⟨z0, z1, zl⟩ := HS1.out.box
  have zp := HS1.out.pc
  by_cases hnp : np = n
  · have e1 : ((np : Int) != (n : Int)) = false := neq_of (by omega)
    go_wp2_with fail
    clear e1
    refine (HLG.out _ HS1.out.bel).mono ?_
    rintro e w2 ⟨L, cl, rfl, hcl, hL, hrow, hb⟩
    have HS2 := hid (HS1.out.next hb)
    have HROW := hid hrow
    clear hb HS1 HLG hL hrow z0 z1 zl zp
    obtain ⟨z0, z1, zl⟩ := HS2.out.box
    have zp := HS2.out.pc
    go_wp2_with fail
    clear z0 z1 zl zp
    subst hnp
    go_loopg [26] np (fun q i wr => ∃ t : Nat, t ≤ np ∧ q = np - t ∧ i = .int .i64 (t : Int) ∧ Hid (∀ j, j < t → formQ (p.rn j) (p.ln j) ((partsQ c).lg (j + 1)) (p.rl j)) ∧ Hid (StQ w wr X g (.slice (some ⟨b, off, none⟩) np cap) (.slice ap np cp)) ∧ Hid (IRow wr L 0 (np + 1) (belowQ c)))
    case atStart => exact ⟨0, by omega, rfl, rfl, hid (fun j hj => absurd hj (by omega)), HS2, HROW⟩
    case round =>
      clear HS2 HROW
      obtain ⟨t, ht, rfl, rfl, HOK, HS, HROW⟩ := hrel
      by_cases htl : t < np
      · obtain ⟨i, hi⟩ : ∃ i : Nat, i + t + 1 = np := ⟨np - 1 - t, by omega⟩
        obtain ⟨bk, hbk, bk4⟩ := belowQ_rng HC.out i
        have HLK := hid (lg_of HN.out hi hbk)
        obtain ⟨pb, po, rfl, hcl2⟩ := HPR.out.kept HS.out.bel (by rw [HP.out]; omega)
        obtain ⟨y0, y1, y2, _⟩ := hcl2 t (by rw [HP.out]; exact htl)
        rw [Nat.mul_comm 2 t] at y0 y1
        obtain ⟨ra, hra⟩ : ∃ x, m.ra t = x := ⟨_, rfl⟩
        obtain ⟨rn, hrn⟩ : ∃ x, p.rn t = x := ⟨_, rfl⟩
        obtain ⟨rc, hrc⟩ : ∃ x, m.rc t = x := ⟨_, rfl⟩
        obtain ⟨la, hla⟩ : ∃ x, m.la t = x := ⟨_, rfl⟩
        obtain ⟨ln, hln⟩ : ∃ x, p.ln t = x := ⟨_, rfl⟩
        obtain ⟨lc, hlc⟩ : ∃ x, m.lc t = x := ⟨_, rfl⟩
        rw [hra, hrn, hrc] at y0
        rw [hla, hln, hlc] at y1
        rw [hra, hrn] at y2
        have HLR := hid y2
        have HRN := hid (And.intro hrn hln)
        clear hcl2 y2 hra hrn hrc hla hln hlc
        have hal := (Below.refl wr.heap.size wr).alloc (Nat.le_refl _) (.cells #[.slice ra rn rc, .slice la ln lc] 76)
        have HS1 := hid (HS.out.next hal)
        have HR1 := hid (HROW.out.kept hal)
        have HL1 := hid (HLR.out.kept hal)
        have HB1 := hid (Box2.new wr (.slice ra rn rc) (.slice la ln lc) 76)
        have t0 : (0 : Int) ≤ (t : Int) := by omega
        have t1 : (t : Int) < (np : Int) := by omega
        clear hal HLR HROW HS
        go_wp2_with fail
        obtain ⟨PB, hPB⟩ : ∃ x, wr.heap.size = x := ⟨_, rfl⟩
        rw [hPB] at HB1
        rw [hPB]
        clear hPB y0 y1
        generalize wr.alloc (.cells #[.slice ra rn rc, .slice la ln lc] 76) = W2 at HS1 HR1 HL1 HB1 ⊢
        obtain ⟨z0, z1, zl⟩ := HS1.out.box
        obtain ⟨b0, b1, bl⟩ := HB1.out
        have x0 := HR1.out i (by omega)
        rw [Nat.zero_add, hbk] at x0
        have HF := hid (fun W (h : Below W2.heap.size W2 W) => hasForm_any ra la rn rc ln lc bk (m.A t) (p.rl t) (m.C t) (p.R t) W bk4 (HL1.out.kept h))
        have hw1 : IntKind.i64.wrap ((np : Int) - 1) = (np : Int) - 1 := IntWalk.i64_in _ (by omega)
        have hw2 : IntKind.i64.wrap ((np : Int) - 1 - (t : Int)) = (i : Int) := by rw [show (np : Int) - 1 - (t : Int) = (i : Int) from by omega]; exact IntWalk.i64_in _ (by omega)
        have i0 : (0 : Int) ≤ (i : Int) := by omega
        have i1 : (i : Int) < (np : Int) + 1 := by omega
        clear hbk
        go_region_held3 (fun W' => (W'.cell? ⟨PB, 0, none⟩ = some (.slice ra rn rc) ∧ W'.cell? ⟨PB, 1, none⟩ = some (.slice la ln lc)) ∧ W'.cell? ⟨X, 1, none⟩ = some (.slice (some ⟨b, off, none⟩) np cap) ∧ W'.cell? ⟨L, i, none⟩ = some (.int .i64 (bk : Int))) (first | assumption | exact ⟨⟨b0, b1⟩, z1, x0⟩ | exact zx) (first
          | (go_at_call 37; refine (HF.out _ (Below.refl _ W2).drew).mono ?_; rintro e w3 ⟨r, rfl, hrr, hb⟩; have hb3 : Below W2.heap.size W2 w3 := (Below.refl _ W2).drew.trans hb; have zx : (w3.cell? ⟨PB, 0, none⟩ = some (.slice ra rn rc) ∧ w3.cell? ⟨PB, 1, none⟩ = some (.slice la ln lc)) ∧ w3.cell? ⟨X, 1, none⟩ = some (.slice (some ⟨b, off, none⟩) np cap) ∧ w3.cell? ⟨L, i, none⟩ = some (.int .i64 (bk : Int)) := ⟨⟨(hb3.cell bl).trans b0, (hb3.cell bl).trans b1⟩, (hb3.cell zl).trans z1, (hb3.cell (World.block_lt_of_cell? W2 _ x0)).trans x0⟩; clear hb))
        have HS3 := hid (HS1.out.next hb3)
        have HR3 := hid (HR1.out.kept hb3)
        have HRR := hid hrr
        clear zx hb3 hrr HS1 HR1 HL1 HB1 z0 z1 zl b0 b1 bl x0 HF
        cases r with
        | false =>
          have HNO : Hid (¬ shapedQ c p) := hid (fun h => by
            obtain ⟨h1, h2, h3⟩ := h.2 t (by rw [HP.out]; exact htl)
            rw [HLK.out] at h1 h2
            rw [HRN.out.1] at h1 h3
            rw [HRN.out.2] at h2
            exact Bool.false_ne_true (HRR.out.2 ⟨h1, h2, h3⟩))
          go_wp2_with fail
          go_ret
          exact ⟨4, rfl, .inr (.inr ⟨HC.out, HNO.out, rfl⟩), HS3.out.bel⟩
        | true =>
          have HON : Hid (∀ j, j < t + 1 → formQ (p.rn j) (p.ln j) ((partsQ c).lg (j + 1)) (p.rl j)) := hid (fun j hj => by
            by_cases e : j = t
            · rw [e, HLK.out, HRN.out.1, HRN.out.2]; exact HRR.out.1 (by first | rfl | trivial)
            · exact HOK.out j (by omega))
          go_wp2_with fail
          go_roundg (np - (t + 1))
          case measure => go_light; omega
          case rel => exact ⟨t + 1, by omega, rfl, by go_num, HON, HS3, HR3⟩
      · have e : t = np := by omega
        have HYES : Hid (shapedQ c p) := hid ⟨by rw [HP.out, HN.out], fun j hj => HOK.out j (by rw [HP.out] at hj; omega)⟩
        have t1 : ¬ ((t : Int) < (np : Int)) := by omega
        clear e
        go_wp2_with fail
        go_ret
        exact ⟨0, rfl, .inr (.inl ⟨HC.out, HYES.out, rfl⟩), HS.out.bel⟩
  · have e1 : ((np : Int) != (n : Int)) = true := by simp; omega
    have HNO : Hid (¬ shapedQ c p) := hid (fun h => hnp (by rw [← HP.out, h.1, HN.out]))
    clear hnp
    go_wp2_with fail
    go_ret
    exact ⟨4, rfl, .inr (.inr ⟨HC.out, HNO.out, rfl⟩), HS1.out.bel⟩

end Go.Proofs.YtaiaillaihlhpafDoor
