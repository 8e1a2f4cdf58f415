/-
  Contracts of a turn's line, and of package gkr's spread; they make new rows and write nothing that was there.
-/
import Derived.Test.YtaiaillaihlhpafDoorGk2
import Derived.Test.YtaiaillaihlhpafDoorMleEv
import Derived.Test.YtaiaillaihlhpafDoorTabs
import Derived.Deep.AppendLies
namespace Go.Proofs.YtaiaillaihlhpafDoor
open Go.RowKit
set_option linter.unusedVariables false
attribute [local go_sem ↓] Go.wp_at_zero Go.wp_at_succ

/-- A line's values, of draws d (x ahead, y behind). -/
def lnF (V d : Nat → Int) (k s : Nat) : Int := ofK (evS (fun j => kk (V j)) (fun j => kk (linQ d (fun j => d (k + j)) (s : Int) j)) k)
theorem lnF_rng (V d : Nat → Int) (k s : Nat) : 0 ≤ lnF V d k s ∧ lnF V d k s ≤ 18446744073709551615 := ofK_u64 _
theorem ln_step (f : Nat → Int) (k j : Nat) : (if j = k then f k else if j < k then f j else 0) = if j < k + 1 then f j else 0 := by
  by_cases e : j = k
  · subst e; rw [if_pos rfl, if_pos (by omega)]
  · rw [if_neg e]
    by_cases h2 : j < k
    · rw [if_pos h2, if_pos (by omega)]
    · rw [if_neg h2, if_neg (by omega)]

set_option maxHeartbeats 4000000 in
set_option maxRecDepth 100000 in
theorem line_any (i : Int) (az : Option Addr) (nz cz bd od k cd : Nat) (tau : Int) (d : Nat → Int) (bb ob N cb : Nat) (V : Nat → Int) (w : World) (hk : k ≤ 8) (hcd : 2 * k < cd) (hcm : cd ≤ maxLen) (hN : N = 2 ^ k) (ht : Tab w) (hr : Row w bd od (2 * k) d) (hv : Nums d) (hb0 : bd < w.heap.size) (hV : Row w bb ob N V) (vV : Nums V) :
    Calls Tryd.prog 35 #[turnV i az nz cz (some ⟨bd, od, none⟩) (2 * k) cd tau, .slice (some ⟨bb, ob, none⟩) N cb] w fun e w' => ∃ B, e = .returned (.slice (some ⟨B, 0, none⟩) (k + 1) (k + 1)) ∧ w.heap.size ≤ B ∧ Row w' B 0 (k + 1) (lnF V d k) ∧ Below w.heap.size w w' := by
  have hN1 : 1 ≤ N := by rw [hN]; exact Nat.one_le_two_pow
  have hbb := hV.lt hN1
  have HEN := hid (fun W => ends_any i az nz cz bd od k cd tau W (by omega) hcd hcm)
  have HS0 := hid (StT.start w (.int .i64 i) (.slice az nz cz) (.slice (some ⟨bd, od, none⟩) (2 * k) cd) (.int .u64 tau) 73)
  have HBT := hid (fun W (h : Below w.heap.size w W) (s : Int) (s0 : 0 ≤ s) (s1 : s ≤ 18446744073709551615) => between_any i az nz cz bd od k cd tau s d W (by omega) hcd hcm (hr.kept h hb0) hv s0 s1)
  have HEV := hid (fun W (h : Below w.heap.size w W) (B : Nat) (g : Nat → Int) (hp : Row W B 0 k g) (vg : Nums g) => eval_ok bb ob k N cb k (some ⟨B, 0, none⟩) V g W hk hN (ht.kept h ht.1) (hV.kept h hbb) vV (PRow.of hp) vg)
  clear hr hv hcd hcm hN ht hV vV
  obtain ⟨k2, hk2⟩ : ∃ x, 2 * k = x := ⟨_, rfl⟩
  rw [hk2] at HEN HS0 HBT ⊢
  clear hk2
  have hmk := run_make_row' (P := Tryd.prog) 25 26 (.int .u64 0) 8 Tryd.underlying25 Tryd.infoU rfl .i64 .i64 (k + 1) (by omega) (by omega)
  rw [show ((k + 1 : Nat) : Int) = (k : Int) + 1 from by omega] at hmk
  go_enter Tryd.func35, Tryd.ntmps35
  go_wp2_with fail
  obtain ⟨X, hX⟩ : ∃ X, w.heap.size = X := ⟨_, rfl⟩
  have HS1 : Hid (StT w (w.alloc (.cells #[.int .i64 i, .slice az nz cz, .slice (some ⟨bd, od, none⟩) k2 cd, .int .u64 tau] 73)) X (.int .i64 i) (.slice az nz cz) (.slice (some ⟨bd, od, none⟩) k2 cd) (.int .u64 tau)) := hid (by rw [← hX]; exact HS0.out)
  have HX := hid hX
  rw [hX]
  clear hX HS0
  generalize w.alloc (.cells #[.int .i64 i, .slice az nz cz, .slice (some ⟨bd, od, none⟩) k2 cd, .int .u64 tau] 73) = W1 at HS1 ⊢
  refine (HEN.out _).mono ?_
  rintro e w1 ⟨rfl, hb⟩
  have HS2 := hid (HS1.out.next hb)
  clear hb HS1 HEN
  go_wp2_with fail
  clear hmk
  go_loopg [20] (k + 1) (fun q i wr => ∃ t : Nat, t ≤ k + 1 ∧ q = k + 1 - t ∧ i = .int .i64 (t : Int) ∧ Hid (Made w1 wr (k + 1) (fun j => if j < t then lnF V d k j else 0)))
  case atStart => exact ⟨0, by omega, rfl, rfl, hid ((Made.start w1 (k + 1) 26).congr fun j _ => by rw [if_neg (by omega)])⟩
  case round =>
    obtain ⟨t, ht, rfl, rfl, HM⟩ := hrel
    have HS3 := hid (HS2.out.next HM.out.below)
    by_cases htl : t < k + 1
    · obtain ⟨z0, z1, z2, z3, zl⟩ := HS3.out.box
      have t0 : (0 : Int) ≤ (t : Int) := by omega
      have t1 : (t : Int) < (k : Int) + 1 := by omega
      go_wp2_with fail
      refine (HBT.out _ HS3.out.bel (t : Int) (by omega) (by omega)).mono ?_
      rintro e w2 ⟨B, rfl, hB, hrow, hb2⟩
      have HS4 := hid (HS3.out.next hb2)
      have HM4 := hid (HM.out.keep (by omega) hb2)
      have HRW := hid hrow
      clear hB hrow hb2 z0 z1 z2 z3 zl HS3 HM
      go_wp2_with fail
      refine (HEV.out _ HS4.out.bel B _ HRW.out (fun j => by have := linQ_rng d (fun j => d (k + j)) (t : Int) j; omega)).mono ?_
      rintro e w3 ⟨rfl, hb3⟩
      have HM5 := hid (HM4.out.keep (by omega) hb3)
      have c3 := HM5.out.cell t htl
      have f3 := HM5.out.frozen t htl
      rw [if_neg (by omega)] at c3
      obtain ⟨y, hy⟩ : ∃ y, ofK (evS (fun j => kk (V j)) (fun j => kk (linQ d (fun j => d (k + j)) (t : Int) j)) k) = y := ⟨_, rfl⟩
      rw [hy]
      have HY : Hid (lnF V d k t = y) := hid hy
      clear hb3 HS4 HM4 HRW hy
      go_wp2_with fail
      go_roundg (k + 1 - (t + 1))
      case measure => go_light; omega
      case rel => exact ⟨t + 1, by omega, rfl, by go_num, hid ((HM5.out.store t _ htl).congr fun j _ => by rw [← HY.out]; exact ln_step _ t j)⟩
    · have e : t = k + 1 := by omega
      subst e
      go_wp2_with fail
      go_ret
      exact ⟨_, rfl, HS2.out.bel.size, HM.out.row.congr (fun j hj => by rw [if_pos hj]), HS3.out.bel⟩

/-- Two lists' blocks differ. -/
def Far (u v : Value) : Prop := ∀ k, u.ownBlock = some k → v.ownBlock ≠ some k
theorem Far.symm {u v : Value} (h : Far u v) : Far v u := fun k e1 e2 => h k e2 e1
theorem Far.nil (v : Value) : Far (.slice none 0 0) v := fun k e => by cases e
/-- What append to u leaves of v. -/
theorem Own.other {wr w6 : World} {E n : Nat} {u v : Value} {f : Nat → Int} {o : Obj} (h : Own wr E v n f) (hg : (wr.alloc o).grownBy w6 u.ownBlock) (hf : Far u v) : Own w6 E v n f := by
  refine (World.ownsRow.alloc h o).kept hg ?_
  cases e : v.ownBlock with
  | none => exact .inl rfl
  | some k => exact .inr fun e2 => hf k e2.symm e
theorem Far.next {wr : World} {E n g2 : Nat} {u v : Value} {f : Nat → Int} {m c : Nat} (h : Own wr E v n f) (hat : u.ownBlock = some g2 ∨ g2 = wr.heap.size + 1) (hf : Far u v) : Far (.slice (some ⟨g2, 0, none⟩) m c) v := fun k e => by
  cases e
  intro e2
  rcases hat with e1 | e1
  · exact hf g2 e1 e2
  · have := (World.ownsRow.lt h g2 e2).2; omega
/-- What append leaves, of numbers. -/
theorem osnoc {w wr w6 : World} {E g2 c2 t : Nat} {v : Value} {z : Int} {f : Nat → Int} {o : Obj} (hb : Below E w wr) (hs : E ≤ wr.heap.size) (hown : Own wr E v t f) (hz : f t = z)
    (h6 : w6.ownsRow E 26 1 (.slice (some ⟨g2, 0, none⟩) (t + 1) c2) (t + 1) (cellsOf t f ++ [.int .u64 z])) (hg : (wr.alloc o).grownBy w6 v.ownBlock) : Own w6 E (.slice (some ⟨g2, 0, none⟩) (t + 1) c2) (t + 1) f ∧ Below E w w6 := by
  refine ⟨?_, (hb.alloc hs o).grown hg (by simp; omega) fun k e => ?_⟩
  · unfold Own
    have e2 : ∀ j, j < t + 1 → f j = catF t f (fun _ => z) j := fun j hj => by
      unfold catF
      by_cases e : j < t
      · rw [if_pos e]
      · rw [if_neg e, show j = t from by omega, hz]
    have e : cellsOf (t + 1) f = cellsOf t f ++ [.int .u64 z] := by
      rw [cellsOf_snoc]
      exact cellsOf_congr e2
    rw [e]; exact h6
  · exact (World.ownsRow.lt hown k e).1
theorem onews (w : World) (x : Int) (t : TypeId) : ∀ j u, [Value.int .u64 x][j]? = some u → (w.alloc (.cells #[.int .u64 x] t)).cell? ((⟨w.heap.size, 0, none⟩ : Addr).add j) = some u := by
  intro j u hj
  match j, hj with
  | 0, hj => simp at hj; subst hj; simp [Addr.add]
theorem oone (x : Int) : ∀ u ∈ [Value.int .u64 x], u.oneCell' = true := by intro u hu; simp at hu; subst hu; rfl
/-- Three lists that are gathered. -/
structure Own3 (w W : World) (E : Nat) (u v x : Value) (l m n : Nat) (f g h : Nat → Int) : Prop where
  bel : Below E w W
  o1 : Own W E u l f
  o2 : Own W E v m g
  o3 : Own W E x n h
  f12 : Far u v
  f13 : Far u x
  f23 : Far v x
theorem Own3.rot {w W : World} {E : Nat} {u v x : Value} {l m n : Nat} {f g h : Nat → Int} (o : Own3 w W E u v x l m n f g h) : Own3 w W E v x u m n l g h f := ⟨o.bel, o.o2, o.o3, o.o1, o.f23, o.f12.symm, o.f13.symm⟩
def sprX (V : Nat → Int) (N p : Nat) : Int := V (p / N)
def sprY (V : Nat → Int) (N p : Nat) : Int := V (p % N)
def sprB (V : Nat → Int) (N p : Nat) : Int := addQ (V (p / N)) (V (p % N))
theorem spr_at {N a b : Nat} (hb : b < N) : (a * N + b) / N = a ∧ (a * N + b) % N = b :=
  ⟨by rw [Nat.mul_comm, Nat.mul_add_div (by omega), Nat.div_eq_of_lt hb, Nat.add_zero], by rw [Nat.mul_comm, Nat.mul_add_mod, Nat.mod_eq_of_lt hb]⟩

/-- One number more in the first of them. -/
theorem Own3.put {w wr w6 : World} {E l m n g2 c2 : Nat} {u v x : Value} {f g h : Nat → Int} {z : Int} {o : Obj} (ho : Own3 w wr E u v x l m n f g h) (hs : E ≤ wr.heap.size) (hz : f l = z) (h6 : w6.ownsRow E 26 1 (.slice (some ⟨g2, 0, none⟩) (l + 1) c2) (l + 1) (cellsOf l f ++ [.int .u64 z])) (hg : (wr.alloc o).grownBy w6 u.ownBlock) (hat : u.ownBlock = some g2 ∨ g2 = wr.heap.size + 1) :
    Own3 w w6 E (.slice (some ⟨g2, 0, none⟩) (l + 1) c2) v x (l + 1) m n f g h ∧ E ≤ w6.heap.size := by
  obtain ⟨h1, h2⟩ := osnoc ho.bel hs ho.o1 hz h6 hg
  exact ⟨⟨h2, h1, ho.o2.other hg ho.f12, ho.o3.other hg ho.f13, ho.f12.next ho.o2 hat, ho.f13.next ho.o3 hat, ho.f23⟩, Nat.le_trans hs (Nat.le_trans (by simp) hg.size)⟩
theorem Own.some {w : World} {E n : Nat} {v : Value} {f : Nat → Int} (h : Own w E v n f) (hn : 1 ≤ n) : ∃ g c, v = .slice (some ⟨g, 0, none⟩) n c ∧ Row w g 0 n f := by
  rcases h.2 with ⟨_, e⟩ | ⟨g, cap, cur, rfl, _⟩
  · omega
  · exact ⟨g, cap, rfl, row_own h⟩

/-- What spread tells. -/
def sprOut (V : Nat → Int) (N : Nat) (w : World) (e : Ending) (w' : World) : Prop := ∃ g1 c1 g2 c2 g3 c3, e = .returned (.tuple #[.slice (some ⟨g1, 0, none⟩) (N * N) c1, .slice (some ⟨g2, 0, none⟩) (N * N) c2, .slice (some ⟨g3, 0, none⟩) (N * N) c3]) ∧ Row w' g1 0 (N * N) (sprX V N) ∧ Row w' g2 0 (N * N) (sprY V N) ∧ Row w' g3 0 (N * N) (sprB V N) ∧ Below w.heap.size w w'
set_option maxHeartbeats 8000000 in
set_option maxRecDepth 100000 in
theorem spread_any (bb ob N cb : Nat) (V : Nat → Int) (w : World) (hN1 : 1 ≤ N) (hN : N ≤ 16) (hV : Row w bb ob N V) (vV : Nums V) :
    Calls Tryd.prog 50 #[.slice (some ⟨bb, ob, none⟩) N cb] w fun e w' => sprOut V N w e w' := by
  obtain ⟨i0, hi, hz0, hz1, hz2⟩ := info_parts Tryd.infoU
  have HI := hid (And.intro hi (And.intro hz0 (And.intro hz1 hz2)))
  clear hi hz0 hz1 hz2
  have hbb := hV.lt hN1
  obtain ⟨E, hE⟩ : ∃ E, w.heap.size = E := ⟨_, rfl⟩
  have HEE := hid hE
  have HV := hid hV
  have HVV := hid vV
  have HBB : Hid (bb < E) := hid (by rw [← hE]; exact hbb)
  have HO0 : Hid (Own3 w w E (.slice none 0 0) (.slice none 0 0) (.slice none 0 0) 0 0 0 (sprX V N) (sprY V N) (sprB V N)) := hid ⟨Below.refl _ _, Own.nil _ _ _, Own.nil _ _ _, Own.nil _ _ _, Far.nil _, Far.nil _, Far.nil _⟩
  clear hV vV hE hbb
  go_enter Tryd.func50, Tryd.ntmps50
  go_wp2_with fail
  go_loopg [2, 3, 4, 11] N (fun q l2 l3 l4 i wr => ∃ (a p : Nat) (u v x : Value), a ≤ N ∧ q = N - a ∧ l2 = u ∧ l3 = v ∧ l4 = x ∧ i = .int .i64 (a : Int) ∧ p ≤ 256 ∧ Hid (p = a * N) ∧ Hid (Own3 w wr E u v x p p p (sprX V N) (sprY V N) (sprB V N)))
  case atStart => exact ⟨0, 0, _, _, _, by omega, rfl, rfl, rfl, rfl, rfl, by omega, hid (by simp), HO0⟩
  case round =>
    clear HO0
    obtain ⟨a, p, u, v, x, ha, rfl, h2, h3, h4, rfl, hp, HP, HO⟩ := hrel
    obtain rfl := h2.symm
    obtain rfl := h3.symm
    obtain rfl := h4.symm
    by_cases hal : a < N
    · have hbw : Below E w wr := HO.out.bel
      have y0 := (HV.out.kept hbw HBB.out) a hal
      obtain ⟨vx, hvx⟩ : ∃ x, V a = x := ⟨_, rfl⟩
      obtain ⟨vx0, vx1⟩ := HVV.out a
      rw [hvx] at y0 vx0 vx1
      have HVX := hid hvx
      clear hvx hbw
      have a0 : (0 : Int) ≤ (a : Int) := by omega
      have a1 : (a : Int) < (N : Int) := by omega
      go_wp2_with fail
      clear y0
      obtain ⟨wo, rfl⟩ : ∃ x, x = wr := ⟨wr, rfl⟩
      go_loopg [2, 3, 4, 17] N (fun q l2 l3 l4 i wr => ∃ (b r : Nat) (u v x : Value), b ≤ N ∧ q = N - b ∧ l2 = u ∧ l3 = v ∧ l4 = x ∧ i = .int .i64 (b : Int) ∧ r ≤ 256 ∧ Hid (r = a * N + b) ∧ Hid (Own3 w wr E u v x r r r (sprX V N) (sprY V N) (sprB V N)))
      case atStart => exact ⟨0, p, u, v, x, by omega, rfl, rfl, rfl, rfl, rfl, hp, hid (by rw [HP.out]; omega), HO⟩
      case round =>
        clear HO HP
        obtain ⟨b, r, u, v, x, hb, rfl, h2, h3, h4, rfl, hr, HR, HO⟩ := hrel
        obtain rfl := h2.symm
        obtain rfl := h3.symm
        obtain rfl := h4.symm
        by_cases hbl : b < N
        · have hr1 : r < 256 := by
            have h1 := HR.out
            have h2 : (a + 1) * N ≤ N * N := Nat.mul_le_mul_right N (by omega)
            have h3 : N * N ≤ 16 * 16 := Nat.mul_le_mul hN hN
            rw [Nat.succ_mul] at h2
            omega
          have hbw : Below E w wr := HO.out.bel
          have y0 := (HV.out.kept hbw HBB.out) b hbl
          obtain ⟨vy, hvy⟩ : ∃ x, V b = x := ⟨_, rfl⟩
          obtain ⟨vy0, vy1⟩ := HVV.out b
          rw [hvy] at y0 vy0 vy1
          obtain ⟨d1, d2⟩ := spr_at (a := a) hbl
          rw [← HR.out] at d1 d2
          have HX : Hid (sprX V N r = vx) := hid (by unfold sprX; rw [d1, HVX.out])
          have HY : Hid (sprY V N r = vy) := hid (by unfold sprY; rw [d2, hvy])
          have HZ : Hid (sprB V N r = addQ vx vy) := hid (by unfold sprB; rw [d1, d2, HVX.out, hvy])
          have hs : E ≤ wr.heap.size := by have h1 := HO.out.bel.size; have h2 := HEE.out; omega
          clear hvy hbw d1 d2
          have b0 : (0 : Int) ≤ (b : Int) := by omega
          have b1 : (b : Int) < (N : Int) := by omega
          obtain ⟨q0, q1⟩ := addQ_rng vx vy
          go_wp2_with (at_builtin; refine wpList_append_lies _ rfl _ _ 25 rfl E 26 i0 (.int .u64 0) 1 8 Tryd.underlying25 HI.out.1 HI.out.2.1 HI.out.2.2.1 HI.out.2.2.2 rfl (by decide) u r _ rfl (World.ownsRow.alloc HO.out.o1 _) ⟨wr.heap.size, 0, none⟩ 1 1 [.int .u64 vx] rfl rfl (onews wr vx _) (oone vx) (by omega) (by unfold maxLen; omega) (by omega) (by simp; omega) (wr.heap.size + 1) (by simp) ?_)
          intro g2 c2 w6 hown2 hgrow2 hat2 hlt3
          obtain ⟨h6, hs6⟩ := HO.out.put hs HX.out hown2 hgrow2 hat2
          have HO6 := hid h6.rot
          clear hown2 hgrow2 hat2 hlt3 h6 HO hs y0
          go_wp2_with (at_builtin; refine wpList_append_lies _ rfl _ _ 25 rfl E 26 i0 (.int .u64 0) 1 8 Tryd.underlying25 HI.out.1 HI.out.2.1 HI.out.2.2.1 HI.out.2.2.2 rfl (by decide) v r _ rfl (World.ownsRow.alloc HO6.out.o1 _) ⟨w6.heap.size, 0, none⟩ 1 1 [.int .u64 vy] rfl rfl (onews w6 vy _) (oone vy) (by omega) (by unfold maxLen; omega) (by omega) (by simp; omega) (w6.heap.size + 1) (by simp) ?_)
          intro g3 c3 w7 hown2 hgrow2 hat2 hlt3
          obtain ⟨h7, hs7⟩ := HO6.out.put hs6 HY.out hown2 hgrow2 hat2
          have HO7 := hid h7.rot
          clear hown2 hgrow2 hat2 hlt3 h7 HO6 hs6
          go_wp2_with fail
          refine (add_any _ _ _ (by omega) (by omega) (by omega) (by omega)).mono ?_
          rintro e w' ⟨rfl, hw⟩
          obtain rfl := hw.symm
          clear hw
          go_wp2_with (at_builtin; refine wpList_append_lies _ rfl _ _ 25 rfl E 26 i0 (.int .u64 0) 1 8 Tryd.underlying25 HI.out.1 HI.out.2.1 HI.out.2.2.1 HI.out.2.2.2 rfl (by decide) x r _ rfl (World.ownsRow.alloc HO7.out.o1 _) ⟨w7.heap.size, 0, none⟩ 1 1 [.int .u64 (addQ vx vy)] rfl rfl (onews w7 (addQ vx vy) _) (oone (addQ vx vy)) (by omega) (by unfold maxLen; omega) (by omega) (by simp; omega) (w7.heap.size + 1) (by simp) ?_)
          intro g4 c4 w8 hown2 hgrow2 hat2 hlt3
          obtain ⟨h8, hs8⟩ := HO7.out.put hs7 HZ.out hown2 hgrow2 hat2
          have HO8 := hid h8.rot
          clear hown2 hgrow2 hat2 hlt3 h8 HO7 hs7
          go_wp2_with fail
          go_roundg (N - (b + 1))
          case measure => go_light; omega
          case rel => exact ⟨b + 1, r + 1, _, _, _, by omega, rfl, rfl, rfl, rfl, by go_num, by omega, hid (by rw [HR.out]; omega), HO8⟩
        · have e : b = N := by omega
          have HR2 : Hid (r = (a + 1) * N) := hid (by rw [HR.out, e, Nat.succ_mul])
          have b1 : ¬ ((b : Int) < (N : Int)) := by omega
          clear e
          go_wp2_with fail
          go_roundg (N - (a + 1))
          case measure => go_light; omega
          case rel => exact ⟨a + 1, r, _, _, _, by omega, rfl, rfl, rfl, rfl, by go_num, hr, HR2, HO⟩
    · have e : a = N := by omega
      have hpn : p = N * N := by rw [HP.out, e]
      have hp1 : 1 ≤ p := by rw [hpn]; exact Nat.mul_pos hN1 hN1
      obtain ⟨g1, c1, rfl, r1⟩ := HO.out.o1.some hp1
      obtain ⟨g2, c2, rfl, r2⟩ := HO.out.o2.some hp1
      obtain ⟨g3, c3, rfl, r3⟩ := HO.out.o3.some hp1
      have HF := hid (And.intro hpn (And.intro r1 (And.intro r2 (And.intro r3 HO.out.bel))))
      have a1 : ¬ ((a : Int) < (N : Int)) := by omega
      clear e hpn r1 r2 r3 HO HP
      go_wp2_with fail
      go_ret3
      refine ⟨g1, c1, g2, c2, g3, c3, ?_⟩
      rw [← HF.out.1, HEE.out]
      exact ⟨rfl, HF.out.2.1, HF.out.2.2.1, HF.out.2.2.2.1, HF.out.2.2.2.2⟩

end Go.Proofs.YtaiaillaihlhpafDoor
