/-
  A contract of package open's Look, for every input; it makes new blocks and writes nothing that was there.
-/
import Derived.Test.YtnnjajmkfgnhcaaDoorOpD
import Derived.Deep.RegionHeld3
import Derived.Deep.AppendLies
import Derived.Deep.DeepCutAuto
namespace Go.Proofs.YtnnjajmkfgnhcaaDoor
open Go.RowKit
set_option linter.unusedVariables false
attribute [local go_sem ↓] Go.wp_at_zero Go.wp_at_succ

/-- The arguments may be. -/
def argOk (n m : Nat) (p : Nat → Int) : Prop := 1 ≤ n ∧ n ≤ 8 ∧ plOk m n p
/-- What Look answers. -/
def LookOut (n : Nat) (root : Int) (g : Nat → Int) (m : Nat) (p : Nat → Int) (nr : Nat) (R : Nat → Int) (v : Int) (o : OQ) (r : Bool) (x : Int) : Prop :=
  (¬ argOk n m p ∧ r = false ∧ x = 1) ∨ (argOk n m p ∧ ¬ ofmQ nr n m o ∧ r = false ∧ x = 4) ∨ (argOk n m p ∧ ofmQ nr n m o ∧ r = lookB n root g m (fun j => (p j).toNat) R v o ∧ x = 0)
theorem LookOut.same {n : Nat} {root : Int} {g : Nat → Int} {m : Nat} {p : Nat → Int} {nr : Nat} {R : Nat → Int} {v : Int} {o : OQ} {r r' : Bool} {x x' : Int} (h : LookOut n root g m p nr R v o r x) (h' : LookOut n root g m p nr R v o r' x') : r = r' ∧ x = x' := by
  rcases h with ⟨a, rfl, rfl⟩ | ⟨a, b, rfl, rfl⟩ | ⟨a, b, rfl, rfl⟩ <;> rcases h' with ⟨a', rfl, rfl⟩ | ⟨a', b', rfl, rfl⟩ | ⟨a', b', rfl, rfl⟩ <;> first | exact ⟨rfl, rfl⟩ | exact absurd a' a | exact absurd a a' | exact absurd b' b | exact absurd b b'
theorem look_not {n : Nat} {root : Int} {g : Nat → Int} {m : Nat} {pl : Nat → Nat} {R : Nat → Int} {v : Int} {o : OQ} (h : (climbQ 0 0 v (fun _ => 0) == nrm (R (n - 1))) = false) : lookB n root g m pl R v o = false := by
  unfold lookB
  have e : climbQ 0 0 v (fun _ => 0) = prQ v 0 := rfl
  rw [e] at h
  rw [h]; rfl
theorem look_is {n : Nat} {root : Int} {g : Nat → Int} {m : Nat} {pl : Nat → Nat} {R : Nat → Int} {v : Int} {o : OQ} (h : (climbQ 0 0 v (fun _ => 0) == nrm (R (n - 1))) = true) : lookB n root g m pl R v o = allB m fun i => allB n fun k => fitB n (rtQ root R) g v (o.P i) (o.T i) (pl i) k := by
  unfold lookB
  have e : climbQ 0 0 v (fun _ => 0) = prQ v 0 := rfl
  rw [e] at h
  rw [h]; rfl
/-- What holds of the world behind the claim: its box, the list of all roots, the opening's box. -/
structure StL (w W : World) (B X : Nat) (vr vv vl vp : Value) (gR cR n : Nat) (rt : Nat → Int) : Prop where
  bel : Below w.heap.size w W
  bo : Bx3 W B vr vv vl
  bc : Bx3 W X (.slice (some ⟨gR, 0, none⟩) (n + 1) cR) vp vv
  row : Row W gR 0 (n + 1) rt
theorem StL.next {w W W' : World} {B X : Nat} {vr vv vl vp : Value} {gR cR n : Nat} {rt : Nat → Int} (h : StL w W B X vr vv vl vp gR cR n rt) (hb : Below W.heap.size W W') : StL w W' B X vr vv vl vp gR cR n rt :=
  ⟨h.bel.trans (hb.mono h.bel.size), h.bo.kept hb, h.bc.kept hb, h.row.kept hb (h.row.lt (by omega))⟩
theorem one_root (root : Int) : ∀ u ∈ [Value.int .u64 root], u.oneCell' = true := by intro u hu; simp at hu; subst hu; rfl
theorem row_root {w : World} {base g n cap : Nat} {root : Int} {R : Nat → Int} (h : w.ownsRow base 26 1 (.slice (some ⟨g, 0, none⟩) (1 + n) cap) (1 + n) ([.int .u64 root] ++ cellsOf n R)) : Row w g 0 (n + 1) (rtQ root R) := fun j hj => by
  rw [Nat.zero_add, h.cellAt j (by omega)]
  match j, hj with
  | 0, _ => rfl
  | j + 1, hj =>
    rw [List.getElem?_append_right (by simp), show [Value.int IntKind.u64 root].length = 1 from rfl, Nat.add_sub_cancel, cellsOf_at n R j (by omega)]
    rfl
theorem rowA {w : World} {b o n : Nat} {f : Nat → Int} {x : Obj} (hn : 0 < n) (h : Row w b o n f) : Row (w.alloc x) b o n f := h.kept (bel_new w x) (h.lt hn)
/-- What the lists' growing leaves. -/
theorem grown_cell {w w' : World} {g : Option Nat} (hg : w.grownBy w' g) {a : Addr} {v : Value} (h : w.cell? a = some v) (hne : some a.block ≠ g) : w'.cell? a = some v := hg.cell h hne
theorem grown_frozen {w w' : World} {g : Option Nat} (hg : w.grownBy w' g) {a : Addr} {b : Bool} (h : w.frozen? a = b) (hl : a.block < w.heap.size) (hne : some a.block ≠ g) : w'.frozen? a = b := (World.frozen?_of_block (hg.block _ hl hne)).trans h
/-- A box of three cells that was made, not yet written. -/
structure Zero3 (W : World) (X : Nat) (p q r : Value) : Prop where
  c : Bx3 W X p q r
  f : ∀ j, j < 3 → W.frozen? ⟨X, j, none⟩ = false
theorem Zero3.kept {W W' : World} {X : Nat} {p q r : Value} (h : Zero3 W X p q r) (hb : Below W.heap.size W W') : Zero3 W' X p q r := ⟨h.c.kept hb, fun j hj => (hb.frozen (p := ⟨X, j, none⟩) (show X < W.heap.size from World.block_lt_of_cell? W _ h.c.c0)).trans (h.f j hj)⟩
theorem Zero3.new (W : World) (p q r : Value) (t : TypeId) : Zero3 (W.alloc (.cells #[p, q, r] t)) W.heap.size p q r := ⟨Bx3.new W p q r t, fun j _ => by rw [World.frozen?_alloc_new]⟩
theorem cellD {W : World} {a : Addr} {v : Value} (h : W.cell? a = some v) : W.drew.cell? a = some v := h
theorem own_lit2 (W : World) (x : Obj) (root : Int) : ((W.alloc x).alloc (.cells #[.int .u64 root] 26)).ownsRow W.heap.size 26 1 (.slice (some ⟨W.heap.size + 1, 0, none⟩) 1 1) 1 [.int .u64 root] := by
  have e : (W.alloc x).heap.size = W.heap.size + 1 := by simp
  have h := World.ownsRow_lit (base := W.heap.size) (size := 1) (e := 26) (W.alloc x) #[.int .u64 root] 1 (by simp) (by unfold maxLen; omega) rfl
  rw [e] at h
  exact h
theorem Zero3.dr {W : World} {X : Nat} {p q r : Value} (h : Zero3 W X p q r) : Zero3 W.drew X p q r := ⟨⟨h.c.c0, h.c.c1, h.c.c2⟩, h.f⟩
theorem Zero3.second (W : World) (p q r : Value) (t : TypeId) (x : Obj) : Zero3 ((W.alloc x).alloc (.cells #[p, q, r] t)) (W.heap.size + 1) p q r := by
  have e : (W.alloc x).heap.size = W.heap.size + 1 := by simp
  rw [← e]; exact Zero3.new _ p q r t
theorem Zero3.grown {W W' : World} {X g : Nat} {p q r : Value} (h : Zero3 W X p q r) (hg : W.grownBy W' (some g)) (hne : X ≠ g) : Zero3 W' X p q r := by
  have hl : X < W.heap.size := World.block_lt_of_cell? W _ h.c.c0
  have hn : some X ≠ some g := fun e => hne (Option.some.inj e)
  exact ⟨⟨hg.cell h.c.c0 hn, hg.cell h.c.c1 hn, hg.cell h.c.c2 hn⟩, fun j hj => (World.frozen?_of_block (hg.block X hl hn)).trans (h.f j hj)⟩
theorem Bx3.grown {W W' : World} {X g : Nat} {p q r : Value} (h : Bx3 W X p q r) (hg : W.grownBy W' (some g)) (hne : X ≠ g) : Bx3 W' X p q r := by
  have hn : some X ≠ some g := fun e => hne (Option.some.inj e)
  exact ⟨hg.cell h.c0 hn, hg.cell h.c1 hn, hg.cell h.c2 hn⟩
theorem setB3 {w6 : World} {X : Nat} {p q r p0 q0 r0 : Value} (h0 : w6.cell? ⟨X, 0, none⟩ = some p0) (h1 : w6.cell? ⟨X, 1, none⟩ = some q0) (h2 : w6.cell? ⟨X, 2, none⟩ = some r0) :
    Bx3 (((w6.setCell ⟨X, 0, none⟩ p).setCell ⟨X, 1, none⟩ q).setCell ⟨X, 2, none⟩ r) X p q r := by
  refine ⟨?_, ?_, ?_⟩
  · rw [World.cell?_setCell_other _ _ _ _ (by intro e; simp at e), World.cell?_setCell_other _ _ _ _ (by intro e; simp at e), World.cell?_setCell_same _ _ _ h0]
  · rw [World.cell?_setCell_other _ _ _ _ (by intro e; simp at e), World.cell?_setCell_same _ _ _ (by rw [World.cell?_setCell_other _ _ _ _ (by intro e; simp at e)]; exact h1)]
  · rw [World.cell?_setCell_same _ _ _ (by rw [World.cell?_setCell_other _ _ _ _ (by intro e; simp at e), World.cell?_setCell_other _ _ _ _ (by intro e; simp at e)]; exact h2)]


theorem cell_set3 {W : World} {B X i : Nat} {u a b c : Value} (h : W.cell? ⟨B, i, none⟩ = some u) (hne : B ≠ X) : (((W.setCell ⟨X, 0, none⟩ a).setCell ⟨X, 1, none⟩ b).setCell ⟨X, 2, none⟩ c).cell? ⟨B, i, none⟩ = some u := by
  rw [World.cell?_setCell_other _ _ _ _ (by intro e; simp only [Addr.mk.injEq] at e; exact hne e.1.symm), World.cell?_setCell_other _ _ _ _ (by intro e; simp only [Addr.mk.injEq] at e; exact hne e.1.symm), World.cell?_setCell_other _ _ _ _ (by intro e; simp only [Addr.mk.injEq] at e; exact hne e.1.symm)]; exact h
theorem Bx3.set {W : World} {B X j : Nat} {p q r u : Value} (h : Bx3 W B p q r) (hne : B ≠ X) : Bx3 (W.setCell ⟨X, j, none⟩ u) B p q r :=
  ⟨by rw [World.cell?_setCell_other _ _ _ _ (by intro e; simp only [Addr.mk.injEq] at e; exact hne e.1.symm)]; exact h.c0, by rw [World.cell?_setCell_other _ _ _ _ (by intro e; simp only [Addr.mk.injEq] at e; exact hne e.1.symm)]; exact h.c1, by rw [World.cell?_setCell_other _ _ _ _ (by intro e; simp only [Addr.mk.injEq] at e; exact hne e.1.symm)]; exact h.c2⟩
theorem Row.set {W : World} {b n X j : Nat} {f : Nat → Int} {u : Value} (h : Row W b 0 n f) (hne : b ≠ X) : Row (W.setCell ⟨X, j, none⟩ u) b 0 n f := fun i hi => by
  rw [World.cell?_setCell_other _ _ _ _ (by intro e; simp only [Addr.mk.injEq] at e; exact hne e.1.symm)]; exact h i hi
section
variable {w W3 W' w6 : World} {B X g0 g6 c6 n nr : Nat} {vr vv vl vp p q r : Value} {root : Int} {R : Nat → Int}
theorem claim_set (hbel : Below w.heap.size w W3) (hW : Below W3.heap.size W3 W') (hg : W'.grownBy w6 (some g0)) (hg0 : W3.heap.size ≤ g0) (hX : W3.heap.size ≤ X) (hXg : X ≠ g0) (hat : some g0 = some g6 ∨ g6 = W'.heap.size) (z6 : Zero3 w6 X p q r) (hXl : X < W'.heap.size) (bo : Bx3 W3 B vr vv vl) (hn : nr = n)
    (hown : w6.ownsRow W3.heap.size 26 1 (.slice (some ⟨g6, 0, none⟩) (1 + nr) c6) (1 + nr) ([.int .u64 root] ++ cellsOf nr R)) :
    StL w (((w6.setCell ⟨X, 0, none⟩ (.slice (some ⟨g6, 0, none⟩) (1 + nr) c6)).setCell ⟨X, 1, none⟩ vp).setCell ⟨X, 2, none⟩ vv) B X vr vv vl vp g6 c6 n (rtQ root R) := by
  subst hn
  have hB : B < W3.heap.size := World.block_lt_of_cell? W3 _ bo.c0
  have hgX : g6 ≠ X := by
    rcases hat with e | e
    · have := Option.some.inj e; omega
    · omega
  have h6 : Below W3.heap.size W3 w6 := hW.grown hg hW.size (by intro k hk; have := Option.some.inj hk; omega)
  rw [show (Value.slice (some ⟨g6, 0, none⟩) (1 + nr) c6) = .slice (some ⟨g6, 0, none⟩) (nr + 1) c6 from by rw [Nat.add_comm]]
  refine ⟨hbel.trans ((((h6.setCell hX _).setCell hX _).setCell hX _).mono hbel.size), ?_, setB3 z6.c.c0 z6.c.c1 z6.c.c2, ?_⟩
  · exact (((((bo.kept hW).grown hg (by omega)).set (by omega)).set (by omega)).set (by omega))
  · exact ((row_root hown).set hgX).set hgX |>.set hgX
theorem claim_two {x y : Obj} (hbel : Below w.heap.size w W3) (hg : ((W3.alloc x).alloc y).drew.grownBy w6 (Value.slice (some ⟨g0, 0, none⟩) 1 1).ownBlock) (hat : (Value.slice (some ⟨g0, 0, none⟩) 1 1).ownBlock = some g6 ∨ g6 = ((W3.alloc x).alloc y).drew.heap.size) (hgX : (g0 = W3.heap.size ∧ X = W3.heap.size + 1) ∨ (g0 = W3.heap.size + 1 ∧ X = W3.heap.size)) (z6 : Zero3 w6 X p q r) (bo : Bx3 W3 B vr vv vl) (hn : nr = n)
    (hown : w6.ownsRow W3.heap.size 26 1 (.slice (some ⟨g6, 0, none⟩) (1 + nr) c6) (1 + nr) ([.int .u64 root] ++ cellsOf nr R)) :
    StL w (((w6.setCell ⟨X, 0, none⟩ (.slice (some ⟨g6, 0, none⟩) (1 + nr) c6)).setCell ⟨X, 1, none⟩ vp).setCell ⟨X, 2, none⟩ vv) B X vr vv vl vp g6 c6 n (rtQ root R) := by
  have hb1 := bel_new W3 x
  have hb2 := bel_new (W3.alloc x) y
  have hsz : ((W3.alloc x).alloc y).drew.heap.size = W3.heap.size + 2 := by show ((W3.alloc x).alloc y).heap.size = _; simp
  have k1 : W3.heap.size ≤ g0 := by omega
  have k2 : W3.heap.size ≤ X := by omega
  have k3 : X ≠ g0 := by omega
  have k4 : X < ((W3.alloc x).alloc y).drew.heap.size := by omega
  exact claim_set (W' := ((W3.alloc x).alloc y).drew) (g0 := g0) hbel (hb1.trans (hb2.mono hb1.size)).drew hg k1 k2 k3 hat z6 k4 bo hn hown
theorem claim_new (hbel : Below w.heap.size w W3) (hW : Below W3.heap.size W3 W') (hg : W'.grownBy w6 (some g0)) (hg0 : W3.heap.size ≤ g0) (bo : Bx3 W3 B vr vv vl) (hn : nr = n) (t : TypeId)
    (hown : w6.ownsRow W3.heap.size 26 1 (.slice (some ⟨g6, 0, none⟩) (1 + nr) c6) (1 + nr) ([.int .u64 root] ++ cellsOf nr R)) :
    StL w (w6.alloc (.cells #[.slice (some ⟨g6, 0, none⟩) (1 + nr) c6, vp, vv] t)) B w6.heap.size vr vv vl vp g6 c6 n (rtQ root R) := by
  subst hn
  have hB : B < W3.heap.size := World.block_lt_of_cell? W3 _ bo.c0
  have h6 : Below W3.heap.size W3 w6 := hW.grown hg hW.size (by intro k hk; have := Option.some.inj hk; omega)
  have hr := row_root hown
  rw [show (Value.slice (some ⟨g6, 0, none⟩) (1 + nr) c6) = .slice (some ⟨g6, 0, none⟩) (nr + 1) c6 from by rw [Nat.add_comm]]
  refine ⟨hbel.trans ((h6.alloc h6.size _).mono hbel.size), ?_, Bx3.new _ _ _ _ _, hr.kept (bel_new _ _) (hr.lt (by omega))⟩
  exact ((bo.kept hW).grown hg (by omega)).kept (bel_new _ _)
end

set_option maxHeartbeats 1000000 in
theorem look_arg (n m cp cpl nr cr N cl : Nat) (ap apl ar al : Option Addr) (root v : Int) (p : Nat → Int) (w : World) (hn : n ≤ maxLen) (hm : m ≤ maxLen) (hp : IRowP w apl m p) (h : ¬ argOk n m p) :
    Calls Tryd.prog 30 #[.int .u64 root, .slice ap n cp, .slice apl m cpl, .agg #[.slice ar nr cr, .int .u64 v, .slice al N cl]] w fun e w' => e = .returned (.tuple #[.bool false, .int .i64 1]) ∧ Below w.heap.size w w' := by
  have hm2 : n ≤ 9223372036854775807 := hn
  have HB := hid (bel_new w (.cells #[.slice ar nr cr, .int .u64 v, .slice al N cl] 29))
  by_cases h1 : n < 1
  · have d1 : decide ((n : Int) < 1) = true := decide_eq_true (by omega)
    clear h hp
    go_enter Tryd.func30, Tryd.ntmps30
    go_wp2_with fail
    go_ret2
    exact ⟨rfl, HB.out⟩
  · have d1 : decide ((n : Int) < 1) = false := decide_eq_false (by omega)
    by_cases h8 : 8 < n
    · have d8 : decide ((8 : Int) < (n : Int)) = true := decide_eq_true (by omega)
      clear h hp
      go_enter Tryd.func30, Tryd.ntmps30
      go_wp2_with fail
      go_ret2
      exact ⟨rfl, HB.out⟩
    · have d8 : decide ((8 : Int) < (n : Int)) = false := decide_eq_false (by omega)
      have HA := hid (arePlaces_any m cpl n apl p (w.alloc (.cells #[.slice ar nr cr, .int .u64 v, .slice al N cl] 29)) (by omega) (by omega) hm (hp.kept HB.out))
      have HNO : Hid (¬ plOk m n p) := hid (fun h2 => h ⟨by omega, by omega, h2⟩)
      clear h hp
      go_enter Tryd.func30, Tryd.ntmps30
      go_wp2_with fail
      refine (HA.out).mono ?_
      rintro e w1 ⟨r, rfl, hr, hw⟩
      obtain rfl := hw.symm
      have hr2 : r = false := by
        cases r
        · rfl
        · exact absurd (hr.1 rfl) HNO.out
      subst hr2
      clear hr
      go_wp2_with fail
      go_ret2
      exact ⟨rfl, HB.out⟩

/-- The same, with the world. -/
def lookPost (w : World) (n : Nat) (root : Int) (g : Nat → Int) (m : Nat) (p : Nat → Int) (nr : Nat) (R : Nat → Int) (v : Int) (o : OQ) (e : Ending) (w' : World) : Prop := ∃ (r : Bool) (x : Int), e = .returned (.tuple #[.bool r, .int .i64 x]) ∧ LookOut n root g m p nr R v o r x ∧ Below w.heap.size w w'
set_option maxHeartbeats 8000000 in
set_option maxRecDepth 100000 in
theorem look_any (n m cp cpl nr cr N cl : Nat) (ap apl ar al : Option Addr) (root v : Int) (g p R : Nat → Int) (o : OQ) (mm : OM) (w : World) (hn : n ≤ maxLen) (hm : m ≤ maxLen) (hN : o.n = N) (r0 : 0 ≤ root) (r1 : root ≤ 18446744073709551615) (v0 : 0 ≤ v) (v1 : v ≤ 18446744073709551615) (hg : PRow w ap n g) (hgv : Nums g) (hp : IRowP w apl m p) (hR : PRow w ar nr R) (hRv : Nums R) (ho : OpRow w al o mm) (hov : o.nums) :
    Calls Tryd.prog 30 #[.int .u64 root, .slice ap n cp, .slice apl m cpl, .agg #[.slice ar nr cr, .int .u64 v, .slice al N cl]] w (lookPost w n root g m p nr R v o) := by
  by_cases hA : argOk n m p
  · have HA := hid hA
    have HN := hid hN
    obtain ⟨n1, n8, hpl⟩ := hA
    have m32 : m ≤ 32 := hpl.1
    have HPL := hid hpl
    have hb0 := bel_new w (.cells #[.slice ar nr cr, .int .u64 v, .slice al N cl] 29)
    have HAP := hid (arePlaces_any m cpl n apl p (w.alloc (.cells #[.slice ar nr cr, .int .u64 v, .slice al N cl] 29)) n1 n8 hm (hp.kept hb0))
    have HHF := hid (fun W (hb : Below w.heap.size w W) => ohasForm_any ar al nr cr N cl n m v o mm W n1 n8 (by omega) hN (ho.kept hb))
    have HS0 : Hid (StO w (w.alloc (.cells #[.slice ar nr cr, .int .u64 v, .slice al N cl] 29)) w.heap.size (.slice ar nr cr) (.int .u64 v) (.slice al N cl) al o mm) := hid ⟨hb0, Bx3.new w _ _ _ _, ho.kept hb0⟩
    have HG := hid (And.intro hg hgv)
    have HP := hid hp
    have HR := hid (And.intro hR hRv)
    have HO := hid (And.intro ho hov)
    have d1 : decide ((n : Int) < 1) = false := decide_eq_false (by omega)
    have d8 : decide ((8 : Int) < (n : Int)) = false := decide_eq_false (by omega)
    clear hb0 hpl hp hg hgv hR hRv ho hov hN
    go_enter Tryd.func30, Tryd.ntmps30
    go_wp2_with fail
    obtain ⟨B, hB⟩ : ∃ B, w.heap.size = B := ⟨_, rfl⟩
    rw [hB] at HS0
    rw [hB]
    clear hB
    generalize w.alloc (.cells #[.slice ar nr cr, .int .u64 v, .slice al N cl] 29) = W1 at HS0 HAP ⊢
    refine (HAP.out).mono ?_
    rintro e w1 ⟨r, rfl, hr, hw⟩
    obtain rfl := hw.symm
    have hr2 : r = true := hr.2 HPL.out
    subst hr2
    clear hr d1 d8 HAP
    obtain ⟨z0, z1, z2⟩ := HS0.out.box
    go_wp2_with fail
    refine (HHF.out _ HS0.out.bel).mono ?_
    rintro e W2 ⟨r, rfl, hr, hb2⟩
    have HS2 := hid (HS0.out.next hb2)
    clear HHF HS0 hb2 z0 z1 z2
    obtain ⟨z0, z1, z2⟩ := HS2.out.box
    cases r with
    | false =>
      have HF : Hid (¬ ofmQ nr n m o) := hid (fun h => by have := hr.2 h; cases this)
      clear hr
      go_wp2_with fail
      go_ret2
      exact ⟨false, 4, rfl, .inr (.inl ⟨HA.out, HF.out, rfl, rfl⟩), HS2.out.bel⟩
    | true =>
      have hF := hr.1 rfl
      have HF := hid hF
      have HFO : Hid (o.form n) := hid hF.2.2
      obtain ⟨hn2, hNm, _⟩ := hF
      have HNM : Hid (N = m) := hid (HN.out.symm.trans hNm)
      have HNR : Hid (nr = n) := hid hn2
      have N32 : N ≤ 32 := by have h1 := HNM.out; omega
      obtain ⟨br, orr, rfl, hRr⟩ := HR.out.1 (by omega)
      have HRr := hid hRr
      have cR := (hRr.kept HS2.out.bel (hRr.lt (by omega))) (n - 1) (by omega)
      have HRV := HR.out.2 (n - 1)
      have HLT := hid (fun W (x : Int) (h0 : 0 ≤ x) (h1 : x ≤ 18446744073709551615) => leadsTo_any 0 0 0 none v x (fun _ => 0) W (by omega) (fun h => absurd h (by omega)) (fun _ => by dsimp only; omega) (by decide) v0 v1 h0 h1)
      have HL0 : Hid ((climbQ 0 0 v (fun _ => 0) == nrm (R (n - 1))) = false → lookB n root g m (fun j => (p j).toNat) R v o = false) := hid look_not
      have HL1 : Hid ((climbQ 0 0 v (fun _ => 0) == nrm (R (n - 1))) = true → lookB n root g m (fun j => (p j).toNat) R v o = allB m fun i => allB n fun k => fitB n (rtQ root R) g v (o.P i) (o.T i) ((p i).toNat) k) := hid look_is
      generalize R (n - 1) = y at cR HRV HL0 HL1
      have hlt := fun W => HLT.out W y HRV.1 HRV.2
      generalize (climbQ 0 0 v (fun _ => 0) == nrm y) = r1 at hlt HL0 HL1
      have HLT2 := hid hlt
      obtain ⟨q, hq⟩ : ∃ q, n - 1 = q := ⟨_, rfl⟩
      rw [hq] at cR
      have hq2 : (n : Int) - 1 = (q : Int) := by omega
      have q0 : (0 : Int) ≤ (q : Int) := by omega
      have q1 : (q : Int) < (nr : Int) := by omega
      have q2 : q < nr := by omega
      clear hr hn2 hNm hRr HRV HLT hlt hq
      have FC : Hid ((fun W => W.cell? ⟨B, 0, none⟩ = some (.slice (some ⟨br, orr, none⟩) nr cr) ∧ W.cell? ⟨B, 1, none⟩ = some (.int .u64 v)) W2) := hid ⟨z0, z1⟩
      obtain ⟨SS, hSS⟩ : ∃ SS : World → Prop, SS = (fun W => (fun W => W.cell? ⟨B, 0, none⟩ = some (.slice (some ⟨br, orr, none⟩) nr cr) ∧ W.cell? ⟨B, 1, none⟩ = some (.int .u64 v)) W ∧ W.cell? ⟨br, orr + q, none⟩ = some (.int .u64 y)) := ⟨_, rfl⟩
      have HSS : Hid (∀ W, ((fun W => W.cell? ⟨B, 0, none⟩ = some (.slice (some ⟨br, orr, none⟩) nr cr) ∧ W.cell? ⟨B, 1, none⟩ = some (.int .u64 v)) W ∧ W.cell? ⟨br, orr + q, none⟩ = some (.int .u64 y)) → SS W) := hid (fun W h => by rw [hSS]; exact h)
      have HSU : Hid (∀ W, SS W → ((fun W => W.cell? ⟨B, 0, none⟩ = some (.slice (some ⟨br, orr, none⟩) nr cr) ∧ W.cell? ⟨B, 1, none⟩ = some (.int .u64 v)) W ∧ W.cell? ⟨br, orr + q, none⟩ = some (.int .u64 y))) := hid (fun W h => by rw [hSS] at h; exact h)
      have HNX : Hid (∀ W W' : World, Below W.heap.size W W' → ((fun W => W.cell? ⟨B, 0, none⟩ = some (.slice (some ⟨br, orr, none⟩) nr cr) ∧ W.cell? ⟨B, 1, none⟩ = some (.int .u64 v)) W ∧ W.cell? ⟨br, orr + q, none⟩ = some (.int .u64 y)) → ((fun W => W.cell? ⟨B, 0, none⟩ = some (.slice (some ⟨br, orr, none⟩) nr cr) ∧ W.cell? ⟨B, 1, none⟩ = some (.int .u64 v)) W' ∧ W'.cell? ⟨br, orr + q, none⟩ = some (.int .u64 y))) := hid (fun W W' hb h => ⟨⟨keepC hb h.1.1, keepC hb h.1.2⟩, keepC hb h.2⟩)
      clear hSS
      have FC0 := FC
      clear FC
      have FC : Hid ((fun W => W.cell? ⟨B, 0, none⟩ = some (.slice (some ⟨br, orr, none⟩) nr cr) ∧ W.cell? ⟨B, 1, none⟩ = some (.int .u64 v)) W2 ∧ W2.cell? ⟨br, orr + q, none⟩ = some (.int .u64 y)) := hid ⟨FC0.out, cR⟩
      have hc0 : ∀ t : QT W2 SS, t.w.cell? ⟨B, 0, none⟩ = some (.slice (some ⟨br, orr, none⟩) nr cr) := fun t => (HSU.out _ t.s).1.1
      have hc1 : ∀ t : QT W2 SS, t.w.cell? ⟨B, 1, none⟩ = some (.int .u64 v) := fun t => (HSU.out _ t.s).1.2
      have hc2 : ∀ t : QT W2 SS, t.w.cell? ⟨br, orr + q, none⟩ = some (.int .u64 y) := fun t => (HSU.out _ t.s).2
      clear FC0 z0 z1 z2 cR
      go_wp2_with fail
      refine wp_region_grown SS (by kernel_rfl) (by kernel_rfl) (HSS.out _ FC.out) ?_
      haveI : Nonempty (QT W2 SS) := QT.ne (HSS.out _ FC.out)
      have HKS : Hid (∀ (t : QT W2 SS) w', Below t.w.heap.size t.w w' → SS w') := hid (fun t w' hb => HSS.out _ (HNX.out _ _ hb (HSU.out _ t.s)))
      have HBL : Hid (∀ t : QT W2 SS, Below w.heap.size w t.w) := hid (fun t => HS2.out.bel.trans (t.b.mono HS2.out.bel.size))
      repeat (first | go_big_quiet_skip | (go_big_quiet_want; go_big_quiet_op; first | go_big_quiet_on | go_big_quiet_call ((go_at_call 59; exact Calls.grown_of (HLT2.out _) (HKS.out _)))))
      refine wpQuiet_nil ?_
      intro _ hw'
      obtain ⟨tq, hw''⟩ := hw'
      subst hw''
      have HS3 := hid (HS2.out.next tq.b)
      clear hc0 hc1 hc2 HKS HBL FC HNX HSU HSS HS2 HLT2
      obtain ⟨W3, hwq⟩ : ∃ wq, tq.w = wq := ⟨_, rfl⟩
      rw [hwq] at HS3 ⊢
      clear hwq
      clear tq
      clear this
      clear SS
      cases r1 with
      | false =>
        go_wp2_with fail
        go_ret2
        exact ⟨false, 0, rfl, .inr (.inr ⟨HA.out, HF.out, (HL0.out (by first | rfl | trivial)).symm, rfl⟩), HS3.out.bel⟩
      | true =>
        have HR3 := hid (HRr.out.kept HS3.out.bel (HRr.out.lt (by omega)))
        obtain ⟨i0, hi, hz0, hz1, hz2⟩ := info_parts Tryd.infoO
        have HI := hid (And.intro hi (And.intro hz0 (And.intro hz1 hz2)))
        have hr3lt := HRr.out.lt (by omega)
        clear hi hz0 hz1 hz2
        obtain ⟨z0, z1, z2⟩ := HS3.out.box
        have hBl : B < W3.heap.size := World.block_lt_of_cell? W3 _ z0
        have nr0 : 0 < nr := by omega
        have nrm1 : nr ≤ 8 := by have := HNR.out; omega
        go_wp2_with fail
        go_cut [11] (fun a11 wx => ∃ X gR cR : Nat, a11 = .pointer (some ⟨X, 0, none⟩) ∧ Hid (StL w wx B X (.slice (some ⟨br, orr, none⟩) nr cr) (.int .u64 v) (.slice al N cl) (.slice ap n cp) gR cR n (rtQ root R)))
        case first =>
          go_region_held3 (fun W => W.cell? ⟨B, 0, none⟩ = some (.slice (some ⟨br, orr, none⟩) nr cr) ∧ W.cell? ⟨B, 1, none⟩ = some (.int .u64 v)) (first | assumption | (refine ⟨?_, ?_⟩ <;> (try with_reducible refine cellD ?_) <;> first | with_reducible exact z0 | with_reducible exact z1 | with_reducible exact hHc.out.1 | with_reducible exact hHc.out.2 | (with_reducible refine keepC (bel_new _ _) ?_; first | with_reducible exact z0 | with_reducible exact z1 | with_reducible exact hHc.out.1 | with_reducible exact hHc.out.2 | (with_reducible refine keepC (bel_new _ _) ?_; first | with_reducible exact z0 | with_reducible exact z1 | with_reducible exact hHc.out.1 | with_reducible exact hHc.out.2)) | (with_reducible refine cell_set3 ?_ (by omega); first | with_reducible exact z0 | with_reducible exact z1 | with_reducible exact hHc.out.1 | with_reducible exact hHc.out.2))) (first
            | (refine step_append_lies _ (by rfl) (.tmp 45) (.tmp 47) 22 (by rfl) W3.heap.size 26 i0 (.int .u64 0) 1 8 Tryd.underlying22 HI.out.1 HI.out.2.1 HI.out.2.2.1 HI.out.2.2.2 rfl (by decide) (.slice (some ⟨W3.heap.size, 0, none⟩) 1 1) 1 [.int .u64 root] (by rfl) (by first | exact World.ownsRow_lit _ #[.int .u64 root] 1 (by simp) (by unfold maxLen; omega) rfl | exact World.ownsRow.alloc (World.ownsRow_lit _ #[.int .u64 root] 1 (by simp) (by unfold maxLen; omega) rfl) _) ⟨br, orr, none⟩ nr cr (cellsOf nr R) (by rfl) (by rw [cellsOf_len]; omega) (row_cells (by repeat (first | exact HR3.out | exact Row.drew HR3.out | refine rowA nr0 ?_))) (cellsOf_one _ _) nr0 (by unfold maxLen; omega) (by omega) (by simp <;> omega) _ rfl ?_; intro g6 c6 w6 hown6 hgrow6 hat6 hlt6; have hHc : Hid ((fun W => W.cell? ⟨B, 0, none⟩ = some (.slice (some ⟨br, orr, none⟩) nr cr) ∧ W.cell? ⟨B, 1, none⟩ = some (.int .u64 v)) w6) := hid (have hh : _ ∧ _ := (by assumption); ⟨hgrow6.cell hh.1 (by intro e; have := Option.some.inj e; simp at this; omega), hgrow6.cell hh.2 (by intro e; have := Option.some.inj e; simp at this; omega)⟩); have hC : World.grownBy (World.drew (World.alloc W3 (.cells #[.int .u64 root] 26))) w6 _ := hgrow6; try (have x0 := zx.c.c0; have x1 := zx.c.c1; have x2 := zx.c.c2; have y0 := zx.f 0 (by omega); have y1 := zx.f 1 (by omega); have y2 := zx.f 2 (by omega)))
            | (refine step_append_lies _ (by rfl) (.tmp 45) (.tmp 47) 22 (by rfl) W3.heap.size 26 i0 (.int .u64 0) 1 8 Tryd.underlying22 HI.out.1 HI.out.2.1 HI.out.2.2.1 HI.out.2.2.2 rfl (by decide) (.slice (some ⟨W3.heap.size + 1, 0, none⟩) 1 1) 1 [.int .u64 root] (by rfl) (by first | exact own_lit2 W3 _ root | exact World.ownsRow_lit _ #[.int .u64 root] 1 (by simp) (by unfold maxLen; omega) rfl | exact World.ownsRow.alloc (World.ownsRow_lit _ #[.int .u64 root] 1 (by simp) (by unfold maxLen; omega) rfl) _) ⟨br, orr, none⟩ nr cr (cellsOf nr R) (by rfl) (by rw [cellsOf_len]; omega) (row_cells (by repeat (first | exact HR3.out | exact Row.drew HR3.out | refine rowA nr0 ?_))) (cellsOf_one _ _) nr0 (by unfold maxLen; omega) (by omega) (by simp <;> omega) _ rfl ?_; intro g6 c6 w6 hown6 hgrow6 hat6 hlt6; have hHc : Hid ((fun W => W.cell? ⟨B, 0, none⟩ = some (.slice (some ⟨br, orr, none⟩) nr cr) ∧ W.cell? ⟨B, 1, none⟩ = some (.int .u64 v)) w6) := hid (have hh : _ ∧ _ := (by assumption); ⟨hgrow6.cell hh.1 (by intro e; have := Option.some.inj e; simp at this; omega), hgrow6.cell hh.2 (by intro e; have := Option.some.inj e; simp at this; omega)⟩); (have zx : Zero3 w6 W3.heap.size (.slice none 0 0) (.slice none 0 0) (.int .u64 0) := Zero3.grown (((Zero3.new W3 (.slice none 0 0) (.slice none 0 0) (.int .u64 0) _).kept (bel_new _ _)).dr) hgrow6 (by first | (show W3.heap.size ≠ W3.heap.size + 1; omega) | (show W3.heap.size ≠ (W3.alloc _).heap.size; simp))); (have x0 := zx.c.c0; have x1 := zx.c.c1; have x2 := zx.c.c2; have y0 := zx.f 0 (by omega); have y1 := zx.f 1 (by omega); have y2 := zx.f 2 (by omega)))
            | (refine step_append_lies _ (by rfl) (.tmp 45) (.tmp 47) 22 (by rfl) W3.heap.size 26 i0 (.int .u64 0) 1 8 Tryd.underlying22 HI.out.1 HI.out.2.1 HI.out.2.2.1 HI.out.2.2.2 rfl (by decide) (.slice (some ⟨W3.heap.size, 0, none⟩) 1 1) 1 [.int .u64 root] (by rfl) (by first | exact World.ownsRow_lit _ #[.int .u64 root] 1 (by simp) (by unfold maxLen; omega) rfl | exact World.ownsRow.alloc (World.ownsRow_lit _ #[.int .u64 root] 1 (by simp) (by unfold maxLen; omega) rfl) _) ⟨br, orr, none⟩ nr cr (cellsOf nr R) (by rfl) (by rw [cellsOf_len]; omega) (row_cells (by repeat (first | exact HR3.out | exact Row.drew HR3.out | refine rowA nr0 ?_))) (cellsOf_one _ _) nr0 (by unfold maxLen; omega) (by omega) (by simp <;> omega) _ rfl ?_; intro g6 c6 w6 hown6 hgrow6 hat6 hlt6; have hHc : Hid ((fun W => W.cell? ⟨B, 0, none⟩ = some (.slice (some ⟨br, orr, none⟩) nr cr) ∧ W.cell? ⟨B, 1, none⟩ = some (.int .u64 v)) w6) := hid (have hh : _ ∧ _ := (by assumption); ⟨hgrow6.cell hh.1 (by intro e; have := Option.some.inj e; simp at this; omega), hgrow6.cell hh.2 (by intro e; have := Option.some.inj e; simp at this; omega)⟩); (have zx : Zero3 w6 (W3.heap.size + 1) (.slice none 0 0) (.slice none 0 0) (.int .u64 0) := Zero3.grown ((Zero3.second W3 (.slice none 0 0) (.slice none 0 0) (.int .u64 0) _ _).dr) hgrow6 (by show W3.heap.size + 1 ≠ W3.heap.size; omega)); (have x0 := zx.c.c0; have x1 := zx.c.c1; have x2 := zx.c.c2; have y0 := zx.f 0 (by omega); have y1 := zx.f 1 (by omega); have y2 := zx.f 2 (by omega))))
          all_goals (go_wp2_with fail)
          all_goals go_meet
          all_goals first
            | exact ⟨_, _, _, rfl, hid (claim_new HS3.out.bel (bel_new _ _).drew hgrow6 (Nat.le_refl _) HS3.out.box HNR.out _ hown6)⟩
            | exact ⟨_, _, _, rfl, hid (claim_two HS3.out.bel hgrow6 hat6 (.inl ⟨rfl, rfl⟩) zx HS3.out.box HNR.out hown6)⟩
            | exact ⟨_, _, _, rfl, hid (claim_two HS3.out.bel hgrow6 hat6 (.inr ⟨rfl, rfl⟩) zx HS3.out.box HNR.out hown6)⟩
        case rest =>
          obtain ⟨X, gR, cR, rfl, HS4⟩ := hcut
          clear z0 z1 z2 HR3 HI hr3lt hBl nr0
          have HAL := hid (HL1.out (by first | rfl | trivial))
          clear HL0 HL1 HS3 HRr
          go_wp2_with fail
          go_loopg [55] m (fun q x ws => ∃ t : Nat, t ≤ m ∧ q = m - t ∧ x = .int .i64 (t : Int) ∧ Hid (∀ j, j < t → (allB n fun k => fitB n (rtQ root R) g v (o.P j) (o.T j) ((p j).toNat) k) = true) ∧ Hid (StL w ws B X (.slice (some ⟨br, orr, none⟩) nr cr) (.int .u64 v) (.slice al N cl) (.slice ap n cp) gR cR n (rtQ root R)))
          case atStart => exact ⟨0, by omega, rfl, rfl, hid (fun j hj => absurd hj (by omega)), HS4⟩
          case round =>
            clear HS4
            obtain ⟨t, ht, rfl, rfl, HK, HS⟩ := hrel
            by_cases htl : t < m
            · obtain ⟨bpl, opl, rfl, hplr⟩ := (HP.out.kept HS.out.bel) (by omega)
              have c1 := hplr t htl
              have hpt := HPL.out.2 t htl
              obtain ⟨bl, ol, rfl, hrow⟩ := (HO.out.1.kept HS.out.bel) (by rw [HN.out, HNM.out]; omega)
              obtain ⟨d0, d1, hqr, htr⟩ := hrow t (by rw [HN.out, HNM.out]; exact htl)
              obtain ⟨f0, f1, f2⟩ := HFO.out t (by rw [HN.out, HNM.out]; exact htl)
              rw [f0] at d0 hqr
              rw [f1] at d1 htr
              rw [Nat.mul_comm 2 t] at d0 d1
              obtain ⟨pt, hptn⟩ : ∃ pt : Nat, p t = (pt : Int) := ⟨(p t).toNat, by omega⟩
              have HPT : Hid ((p t).toNat = pt) := hid (by omega)
              rw [hptn] at c1 hpt
              have hh := hfQ_le (k := 0) n8
              have pt8 : pt ≤ 1000 := by omega
              have HFI := hid (fun W (hb : Below wr.heap.size wr W) => fits_any n pt cR cp (mm.pc t) (mm.tc t) (some ⟨gR, 0, none⟩) ap (mm.pa t) (mm.ta t) v (rtQ root R) g (o.P t) (mm.A t) (o.tl t) (mm.C t) (o.T t) W n8 pt8 (PRow.of (HS.out.row.kept hb (HS.out.row.lt (by omega)))) (fun j => by unfold rtQ; split; exact ⟨r0, r1⟩; exact HR.out.2 _) ((HG.out.1.kept HS.out.bel).kept hb) HG.out.2 v0 v1 (hqr.kept hb) (fun k e => ⟨(HO.out.2 t k e).1, (HO.out.2 t k e).2.1⟩) (htr.kept hb) f2 (fun k e => (HO.out.2 t k e).2.2))
              have HBV : Hid (∀ b, (allB n fun k => fitB n (rtQ root R) g v (o.P t) (o.T t) pt k) = b → (allB n fun k => fitB n (rtQ root R) g v (o.P t) (o.T t) ((p t).toNat) k) = b) := hid (fun b h => by rw [HPT.out]; exact h)
              generalize (allB n fun k => fitB n (rtQ root R) g v (o.P t) (o.T t) pt k) = rr at HFI HBV
              generalize mm.pa t = pa at d0 HFI
              generalize mm.ta t = ta at d1 HFI
              generalize mm.pc t = pc at d0 HFI
              generalize mm.tc t = tc at d1 HFI
              obtain ⟨z0, z1, z2⟩ := HS.out.bo
              obtain ⟨x0, x1, x2⟩ := HS.out.bc
              have t0 : (0 : Int) ≤ (t : Int) := by omega
              have t1 : (t : Int) < (m : Int) := by omega
              have t2 : (t : Int) < (N : Int) := by have h1 := HNM.out; omega
              have t3 : t < N := by have h1 := HNM.out; omega
              clear hplr hrow hqr htr f0 f1 f2 hptn hpt hh
              obtain ⟨SS, hSS⟩ : ∃ SS : World → Prop, SS = (fun W => W.cell? ⟨B, 2, none⟩ = some (.slice (some ⟨bl, ol, none⟩) N cl) ∧ W.cell? ⟨X, 0, none⟩ = some (.slice (some ⟨gR, 0, none⟩) (n + 1) cR) ∧ W.cell? ⟨X, 1, none⟩ = some (.slice ap n cp) ∧ W.cell? ⟨X, 2, none⟩ = some (.int .u64 v) ∧ W.cell? ⟨bl, ol + t * 2, none⟩ = some (.slice pa n pc) ∧ W.cell? ⟨bl, ol + t * 2 + 1, none⟩ = some (.slice ta n tc)) := ⟨_, rfl⟩
              have HSS : Hid (∀ W, (fun W => W.cell? ⟨B, 2, none⟩ = some (.slice (some ⟨bl, ol, none⟩) N cl) ∧ W.cell? ⟨X, 0, none⟩ = some (.slice (some ⟨gR, 0, none⟩) (n + 1) cR) ∧ W.cell? ⟨X, 1, none⟩ = some (.slice ap n cp) ∧ W.cell? ⟨X, 2, none⟩ = some (.int .u64 v) ∧ W.cell? ⟨bl, ol + t * 2, none⟩ = some (.slice pa n pc) ∧ W.cell? ⟨bl, ol + t * 2 + 1, none⟩ = some (.slice ta n tc)) W → SS W) := hid (fun W h => by rw [hSS]; exact h)
              have HSU : Hid (∀ W, SS W → (fun W => W.cell? ⟨B, 2, none⟩ = some (.slice (some ⟨bl, ol, none⟩) N cl) ∧ W.cell? ⟨X, 0, none⟩ = some (.slice (some ⟨gR, 0, none⟩) (n + 1) cR) ∧ W.cell? ⟨X, 1, none⟩ = some (.slice ap n cp) ∧ W.cell? ⟨X, 2, none⟩ = some (.int .u64 v) ∧ W.cell? ⟨bl, ol + t * 2, none⟩ = some (.slice pa n pc) ∧ W.cell? ⟨bl, ol + t * 2 + 1, none⟩ = some (.slice ta n tc)) W) := hid (fun W h => by rw [hSS] at h; exact h)
              clear hSS
              have FC : Hid ((fun W => W.cell? ⟨B, 2, none⟩ = some (.slice (some ⟨bl, ol, none⟩) N cl) ∧ W.cell? ⟨X, 0, none⟩ = some (.slice (some ⟨gR, 0, none⟩) (n + 1) cR) ∧ W.cell? ⟨X, 1, none⟩ = some (.slice ap n cp) ∧ W.cell? ⟨X, 2, none⟩ = some (.int .u64 v) ∧ W.cell? ⟨bl, ol + t * 2, none⟩ = some (.slice pa n pc) ∧ W.cell? ⟨bl, ol + t * 2 + 1, none⟩ = some (.slice ta n tc)) wr) := hid ⟨z2, x0, x1, x2, d0, d1⟩
              have hc0 : ∀ t : QT wr SS, t.w.cell? ⟨B, 2, none⟩ = some (.slice (some ⟨bl, ol, none⟩) N cl) := fun t => (HSU.out _ t.s).1
              have hc1 : ∀ t : QT wr SS, t.w.cell? ⟨X, 0, none⟩ = some (.slice (some ⟨gR, 0, none⟩) (n + 1) cR) := fun t => (HSU.out _ t.s).2.1
              have hc2 : ∀ t : QT wr SS, t.w.cell? ⟨X, 1, none⟩ = some (.slice ap n cp) := fun t => (HSU.out _ t.s).2.2.1
              have hc3 : ∀ t : QT wr SS, t.w.cell? ⟨X, 2, none⟩ = some (.int .u64 v) := fun t => (HSU.out _ t.s).2.2.2.1
              have hc4 : ∀ q : QT wr SS, q.w.cell? ⟨bl, ol + t * 2, none⟩ = some (.slice pa n pc) := fun t => (HSU.out _ t.s).2.2.2.2.1
              have hc5 : ∀ q : QT wr SS, q.w.cell? ⟨bl, ol + t * 2 + 1, none⟩ = some (.slice ta n tc) := fun t => (HSU.out _ t.s).2.2.2.2.2
              clear z0 z1 z2 x0 x1 x2 d0 d1
              go_wp2_with fail
              refine wp_region_grown SS (by kernel_rfl) (by kernel_rfl) (HSS.out _ FC.out) ?_
              haveI : Nonempty (QT wr SS) := QT.ne (HSS.out _ FC.out)
              have HKS : Hid (∀ (t : QT wr SS) w', Below t.w.heap.size t.w w' → SS w') := hid (fun t w' hb => HSS.out _ (by obtain ⟨e1, e2, e3, e4, e5, e6⟩ := HSU.out _ t.s; exact ⟨keepC hb e1, keepC hb e2, keepC hb e3, keepC hb e4, keepC hb e5, keepC hb e6⟩))
              repeat (first | go_big_quiet_skip | (go_big_quiet_want; go_big_quiet_op; first | go_big_quiet_on | go_big_quiet_call ((go_at_call 60; exact Calls.grown_of (HFI.out _ (QT.b _)) (HKS.out _)))))
              refine wpQuiet_nil ?_
              intro _ hw'
              obtain ⟨tq, hw''⟩ := hw'
              subst hw''
              have HS3 := hid (HS.out.next tq.b)
              clear hc0 hc1 hc2 hc3 hc4 hc5 HKS FC HSU HSS HFI HS
              obtain ⟨W3, hwq⟩ : ∃ wq, tq.w = wq := ⟨_, rfl⟩
              rw [hwq] at HS3 ⊢
              clear hwq
              clear tq
              clear this
              clear SS
              cases rr with
              | false =>
                have HNO : Hid (lookB n root g m (fun j => (p j).toNat) R v o = false) := hid (by rw [HAL.out]; exact allB_no htl (HBV.out _ rfl))
                clear HBV
                go_wp2_with fail
                go_ret2
                exact ⟨false, 0, rfl, .inr (.inr ⟨HA.out, HF.out, HNO.out.symm, rfl⟩), HS3.out.bel⟩
              | true =>
                have HK2 : Hid (∀ j, j < t + 1 → (allB n fun k => fitB n (rtQ root R) g v (o.P j) (o.T j) ((p j).toNat) k) = true) := hid (fun j hj => by
                  by_cases e : j = t
                  · rw [e]; exact HBV.out _ rfl
                  · exact HK.out j (by omega))
                clear HK HBV
                go_wp2_with fail
                go_roundg (m - (t + 1))
                case measure => go_light; omega
                case rel => exact ⟨t + 1, by omega, rfl, by go_num, HK2, HS3⟩
            · have e : t = m := by omega
              subst e
              go_wp2_with fail
              go_ret2
              exact ⟨true, 0, rfl, .inr (.inr ⟨HA.out, HF.out, (HAL.out.trans (allB_iff.2 HK.out)).symm, rfl⟩), HS.out.bel⟩
  · refine (look_arg n m cp cpl nr cr N cl ap apl ar al root v p w hn hm hp hA).mono ?_
    rintro e w' ⟨rfl, hb⟩
    exact ⟨false, 1, rfl, .inl ⟨hA, rfl, rfl⟩, hb⟩

end Go.Proofs.YtnnjajmkfgnhcaaDoor
