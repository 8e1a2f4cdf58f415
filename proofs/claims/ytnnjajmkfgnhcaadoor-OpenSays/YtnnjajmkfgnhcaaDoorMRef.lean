/-
  Several texts in one: RefSpong, RefSpong2, RefSpong3, RefTree, RefTree2, RefPfM, RefMle, RefMle2; each opens with what it holds.
-/
import Derived.Test.YtnnjajmkfgnhcaaDoorChecked
import Derived.Test.YtnnjajmkfgnhcaaDoorMFiat
import Derived.Test.YtnnjajmkfgnhcaaDoorOwn
import Derived.Test.YtnnjajmkfgnhcaaDoorRefA
import Derived.Test.YtnnjajmkfgnhcaaDoorRefN
import Derived.WalkKit
import Derived.Deep.LoopGhost
import Derived.Deep.Light
import Derived.Deep.OwnRows
import Derived.Deep.DrawnRows
import Derived.StillTailTactics
import Derived.Test.YtnnjajmkfgnhcaaDoorMOpA
import Derived.Deep.RegionWith
import Derived.Deep.RegionHeld3
import Derived.Deep.AppendLies
import Derived.Test.YtnnjajmkfgnhcaaDoorPrf
import Derived.Test.YtnnjajmkfgnhcaaDoorCircM
import Derived.Test.YtnnjajmkfgnhcaaDoorMulti
import Derived.Test.YtnnjajmkfgnhcaaDoorMleRef
import Derived.Test.YtnnjajmkfgnhcaaDoorRefVars
/-
  Contracts of tallyref's Sponge: mix, for every three numbers; it turns the sponge's own block, makes new ones, and writes nothing else that was there.
-/
namespace Go.Proofs.YtnnjajmkfgnhcaaDoor
open Go.RowKit
set_option linter.unusedVariables false
attribute [local go_sem ↓] Go.wp_at_zero Go.wp_at_succ

theorem Tryd.mixedS : Tryd.prog.follows .mixedOrders = true := by kernel_rfl
theorem Turned.new {b : Nat} {w w' : World} (h : Turned b w w') {c : Nat} (hc : w.heap.size ≤ c) (p : Nat) (u : Value) : Turned b w (w'.setCell ⟨c, p, none⟩ u) :=
  ⟨h.os, h.tape, h.output, by rw [World.size_setCell]; exact h.size, fun k hk hb => by rw [Below.heap_setCell _ _ _ _ (by show k ≠ c; omega)]; exact h.block k hk hb⟩
theorem Turned.alloc {b : Nat} {w w' : World} (h : Turned b w w') (x : Obj) : Turned b w (w'.alloc x) := h.trans (Turned.of_below ((Below.refl _ w').alloc (Nat.le_refl _) x))
theorem add_num (g : Nat → K) (k i : Nat) : addQ (numsK g k) ((i * (k + 1) : Nat) : Int) = ofK (g k + kn (i * (k + 1))) := by unfold numsK; rw [addQ_ofK, kk_ofK]; rfl
theorem sq_step (a : K) (i : Nat) (y : Int) (hy : y = ofK (sqK a i)) : mulQ y y = ofK (sqK a (i + 1)) := by rw [mulQ_ofK, hy, kk_ofK]; rfl
theorem p17_step (a : K) (x y : Int) (hx : x = ofK a) (hy : y = ofK (sqK a 4)) : mulQ y x = ofK (p17 a) := by rw [mulQ_ofK, hx, hy, kk_ofK, kk_ofK]; rfl
/-- What holds in a turn: the sponge's numbers, and the array beside it. -/
structure Mx (w W : World) (b : Nat) (f : Nat → Int) (tb : Nat) (h : Nat → Int) : Prop where
  t : Turned b w W
  r : Row W b 0 3 f
  f : Free W b 0 3
  tr : Row W tb 0 3 h
  tf : Free W tb 0 3
theorem Mx.putT {w W : World} {b tb : Nat} {f h : Nat → Int} (m : Mx w W b f tb h) (hn : w.heap.size ≤ tb) (hne : b ≠ tb) (k : Nat) (hk : k < 3) (x : Int) : Mx w (W.setCell ⟨tb, k, none⟩ (.int .u64 x)) b f tb (fun j => if j = k then x else h j) := by
  have hs := m.tr.store k x hk
  rw [Nat.zero_add] at hs
  have hW : Wrote tb k 1 W (W.setCell ⟨tb, k, none⟩ (.int .u64 x)) := (Wrote.refl _ _ _ _).store (Nat.le_refl _) (by omega) _
  exact ⟨m.t.new hn _ _, m.r.other hW hne, fun j hj => by rw [World.frozen?_setCell]; exact m.f j hj, hs, fun j hj => by rw [World.frozen?_setCell]; exact m.tf j hj⟩
theorem Mx.putS {w W : World} {b tb : Nat} {f h : Nat → Int} (m : Mx w W b f tb h) (hne : b ≠ tb) (k : Nat) (hk : k < 3) (x : Int) : Mx w (W.setCell ⟨b, k, none⟩ (.int .u64 x)) b (fun j => if j = k then x else f j) tb h := by
  have hs := m.r.store k x hk
  rw [Nat.zero_add] at hs
  have hW : Wrote b k 1 W (W.setCell ⟨b, k, none⟩ (.int .u64 x)) := (Wrote.refl _ _ _ _).store (Nat.le_refl _) (by omega) _
  exact ⟨m.t.setCell _ _, hs, fun j hj => by rw [World.frozen?_setCell]; exact m.f j hj, m.tr.other hW (Ne.symm hne), fun j hj => by rw [World.frozen?_setCell]; exact m.tf j hj⟩
theorem Mx.congr {w W : World} {b tb : Nat} {f h f' h' : Nat → Int} (m : Mx w W b f tb h) (e1 : ∀ j, j < 3 → f j = f' j) (e2 : ∀ j, j < 3 → h j = h' j) : Mx w W b f' tb h' := ⟨m.t, m.r.congr e1, m.f, m.tr.congr e2, m.tf⟩
theorem Mx.drew {w W : World} {b tb : Nat} {f h : Nat → Int} (m : Mx w W b f tb h) : Mx w W.drew b f tb h := ⟨m.t.drew, m.r, m.f, m.tr, m.tf⟩
theorem Mx.start {w W : World} {b : Nat} {f : Nat → Int} (ht : Turned b w W) (hr : Row W b 0 3 f) (hf : Free W b 0 3) (t : TypeId) : Mx w (W.alloc (.cells #[.int .u64 0, .int .u64 0, .int .u64 0] t)) b f W.heap.size (fun _ => 0) := by
  have hb : Below W.heap.size W (W.alloc (.cells #[.int .u64 0, .int .u64 0, .int .u64 0] t)) := (Below.refl _ W).alloc (Nat.le_refl _) _
  have hlt := hr.lt (by omega)
  refine ⟨ht.alloc _, hr.kept hb hlt, hf.kept hb hlt, fun j hj => ?_, fun j _ => ?_⟩
  · rw [Nat.zero_add, World.cell?_alloc_new]
    match j, hj with
    | 0, _ => rfl
    | 1, _ => rfl
    | 2, _ => rfl
  · rw [Nat.zero_add, World.frozen?_alloc_new]
theorem turn_val (g : Nat → K) (i k : Nat) : addQ (addQ (ofK (powK i g 0)) (ofK (powK i g 1))) (addQ (ofK (powK i g 2)) (ofK (powK i g k))) = ofK (turnK i g k) := by
  rw [addQ_ofK, kk_addQ, kk_addQ, kk_ofK, kk_ofK, kk_ofK, kk_ofK]; rfl
def upTo (k : Nat) (h f : Nat → Int) (j : Nat) : Int := if j < k then h j else f j
theorem upTo_step (k : Nat) (h f : Nat → Int) (x : Int) (hx : x = h k) (j : Nat) : (if j = k then x else upTo k h f j) = upTo (k + 1) h f j := by
  unfold upTo
  by_cases e : j = k
  · subst e; rw [if_pos rfl, if_pos (by omega), hx]
  · rw [if_neg e]
    by_cases h2 : j < k
    · rw [if_pos h2, if_pos (by omega)]
    · rw [if_neg h2, if_neg (by omega)]

set_option maxHeartbeats 4000000 in
set_option maxRecDepth 100000 in
theorem rmix_any (b : Nat) (g : Nat → K) (w : World) (hr : Row w b 0 3 (numsK g)) (hf : Free w b 0 3) :
    Calls Tryd.prog 96 #[.pointer (some ⟨b, 0, none⟩)] w fun e w' => e = .returned (.tuple #[]) ∧ Turned b w w' ∧ Row w' b 0 3 (numsK (mixed g)) ∧ Free w' b 0 3 := by
  have hblt : b < w.heap.size := hr.lt (by omega)
  have HR := hid hr
  have HF := hid hf
  clear hr hf
  go_enter Tryd.func96, Tryd.ntmps96
  go_wp2_with fail
  go_loopg [2] 8 (fun q i wr => ∃ n : Nat, n ≤ 8 ∧ q = 8 - n ∧ i = .int .i64 ((n : Int) + 1) ∧ Hid (Turned b w wr) ∧ Hid (Row wr b 0 3 (numsK (mixK g n))) ∧ Hid (Free wr b 0 3))
  case atStart => exact ⟨0, by omega, rfl, rfl, hid (Turned.refl _ _), HR, HF⟩
  case round =>
    clear HR HF
    obtain ⟨n, hn, rfl, rfl, HTU, HR, HF⟩ := hrel
    by_cases hlt : n < 8
    · have n0 : (n : Int) + 1 ≤ 8 := by omega
      go_wp2_with fail
      have hmx := Mx.start HTU.out HR.out HF.out 129
      obtain ⟨tb, htb⟩ : ∃ tb, wr.heap.size = tb := ⟨_, rfl⟩
      have hnew : w.heap.size ≤ tb := by rw [← htb]; exact HTU.out.size
      have hne : b ≠ tb := by omega
      rw [htb] at hmx ⊢
      clear htb HTU HR HF
      generalize wr.alloc (.cells #[.int .u64 0, .int .u64 0, .int .u64 0] 129) = W0 at hmx ⊢
      have HM0 := hid hmx
      clear hmx
      go_loopg [4] 3 (fun q i ws => ∃ k : Nat, k ≤ 3 ∧ q = 3 - k ∧ i = .int .i64 (k : Int) ∧ Hid (Mx w ws b (numsK (mixK g n)) tb (upTo k (fun j => ofK (powK (n + 1) (mixK g n) j)) (fun _ => 0))))
      case atStart => exact ⟨0, by omega, rfl, rfl, HM0⟩
      case round =>
        clear HM0
        obtain ⟨k, hk, rfl, rfl, HM⟩ := hrel
        by_cases hlt2 : k < 3
        · have c1 := HM.out.r k hlt2
          have c2 := HM.out.tr k hlt2
          have f2 := HM.out.tf k hlt2
          rw [Nat.zero_add] at c1 c2 f2
          obtain ⟨s, hs⟩ : ∃ s, numsK (mixK g n) k = s := ⟨_, rfl⟩
          obtain ⟨z, hz⟩ : ∃ z, upTo k (fun j => ofK (powK (n + 1) (mixK g n) j)) (fun _ => 0) k = z := ⟨_, rfl⟩
          have sr := numsK_rng (mixK g n) k
          have hadd := add_num (mixK g n) k (n + 1)
          obtain ⟨M, hM⟩ : ∃ M : Nat, (n + 1) * (k + 1) = M := ⟨_, rfl⟩
          have hM24 : M ≤ 24 := by rw [← hM]; exact Nat.mul_le_mul (show n + 1 ≤ 8 by omega) (show k + 1 ≤ 3 by omega)
          have HMI : Hid (((n : Int) + 1) * ((k : Int) + 1) = (M : Int)) := hid (by rw [← hM]; simp)
          rw [hM] at hadd
          rw [hs] at c1 sr hadd
          rw [hz] at c2
          obtain ⟨s0, s1⟩ := sr
          have wM : IntKind.u64.wrap (M : Int) = (M : Int) := by rw [IntKind.wrap_u64]; omega
          have hpk : p17 (mixK g n k + kn M) = powK (n + 1) (mixK g n) k := by unfold powK; rw [hM]
          obtain ⟨a, ha⟩ : ∃ a : K, mixK g n k + kn M = a := ⟨_, rfl⟩
          rw [ha] at hadd hpk
          have xr := ofK_rng a
          obtain ⟨x, hx⟩ : ∃ x, addQ s (M : Int) = x := ⟨_, rfl⟩
          have hxa : x = ofK a := by rw [← hx]; exact hadd
          rw [← hxa] at xr
          obtain ⟨x0, x1⟩ := xr
          have HXA := hid hxa
          have HPK := hid hpk
          have hra := fun W => radd_any s (M : Int) W (by omega) (by omega) (by omega) (by omega)
          rw [hx] at hra
          have HRA := hid hra
          clear hs hz hadd hM ha hx hxa hpk hra
          have k0 : (0 : Int) ≤ (k : Int) := by omega
          have k1 : (k : Int) < 3 := by omega
          have hMi := HMI.out
          go_wp2_with (go_at_call 80; refine (HRA.out _).mono ?_; rintro e w' ⟨rfl, hw⟩; obtain rfl := hw.symm)
          clear hMi wM
          obtain ⟨wo, rfl⟩ : ∃ q, q = wr := ⟨wr, rfl⟩
          go_loopg [6, 7] 4 (fun q y i ws => ∃ (i0 : Nat) (v : Int), i0 ≤ 4 ∧ q = 4 - i0 ∧ y = .int .u64 v ∧ i = .int .i64 (i0 : Int) ∧ 0 ≤ v ∧ v ≤ 2305843009213693950 ∧ Hid (v = ofK (sqK a i0)) ∧ ws = wo)
          case atStart => exact ⟨0, x, by omega, rfl, rfl, rfl, x0, x1, HXA, rfl⟩
          case round =>
            obtain ⟨i0, v, hi0, rfl, rfl, rfl, v0, v1, HV, hw⟩ := hrel
            obtain rfl := hw.symm
            by_cases hlt3 : i0 < 4
            · have HSQ := hid (sq_step a i0 v HV.out)
              have i1 : (i0 : Int) < 4 := by omega
              go_wp2_with (go_at_call 81; refine (rmul_any _ _ _ (by omega) (by omega) (by omega) (by omega)).mono ?_; rintro e w' ⟨rfl, hw⟩; obtain rfl := hw.symm)
              go_roundg (4 - (i0 + 1))
              case measure => go_light; omega
              case rel => exact ⟨i0 + 1, _, by omega, rfl, rfl, by go_num, (mulQ_rng _ _).1, (mulQ_rng _ _).2, HSQ, rfl⟩
            · have e : i0 = 4 := by omega
              subst e
              have HP := hid ((p17_step a x v HXA.out HV.out).trans (congrArg ofK HPK.out))
              go_wp2_with (go_at_call 81; refine (rmul_any _ _ _ (by omega) (by omega) (by omega) (by omega)).mono ?_; rintro e w' ⟨rfl, hw⟩; obtain rfl := hw.symm)
              go_roundg (3 - (k + 1))
              case measure => go_light; omega
              case rel => exact ⟨k + 1, by omega, rfl, by go_num, hid ((HM.out.putT hnew hne k hlt2 _).congr (fun _ _ => rfl) fun j _ => upTo_step k _ _ _ HP.out j)⟩
        · have e : k = 3 := by omega
          subst e
          have HM3 : Hid (Mx w wr b (numsK (mixK g n)) tb (fun j => ofK (powK (n + 1) (mixK g n) j))) := hid (HM.out.congr (fun _ _ => rfl) fun j hj => by rw [upTo, if_pos hj])
          clear HM
          go_wp2_with fail
          go_loopg [8] 3 (fun q i ws => ∃ k : Nat, k ≤ 3 ∧ q = 3 - k ∧ i = .int .i64 (k : Int) ∧ Hid (Mx w ws b (upTo k (numsK (mixK g (n + 1))) (numsK (mixK g n))) tb (fun j => ofK (powK (n + 1) (mixK g n) j))))
          case atStart => exact ⟨0, by omega, rfl, rfl, HM3⟩
          case round =>
            clear HM3
            obtain ⟨k, hk, rfl, rfl, HM⟩ := hrel
            by_cases hlt2 : k < 3
            · have c0 := HM.out.tr 0 (by omega)
              have c1 := HM.out.tr 1 (by omega)
              have c2 := HM.out.tr 2 (by omega)
              have ck := HM.out.tr k hlt2
              have cs := HM.out.r k hlt2
              have fs := HM.out.f k hlt2
              have hval := turn_val (mixK g n) (n + 1) k
              have r0 := ofK_rng (powK (n + 1) (mixK g n) 0)
              have r1 := ofK_rng (powK (n + 1) (mixK g n) 1)
              have r2 := ofK_rng (powK (n + 1) (mixK g n) 2)
              have rk := ofK_rng (powK (n + 1) (mixK g n) k)
              obtain ⟨p0, h0⟩ : ∃ x, ofK (powK (n + 1) (mixK g n) 0) = x := ⟨_, rfl⟩
              obtain ⟨p1, h1⟩ : ∃ x, ofK (powK (n + 1) (mixK g n) 1) = x := ⟨_, rfl⟩
              obtain ⟨p2, h2⟩ : ∃ x, ofK (powK (n + 1) (mixK g n) 2) = x := ⟨_, rfl⟩
              obtain ⟨pk, hpk⟩ : ∃ x, ofK (powK (n + 1) (mixK g n) k) = x := ⟨_, rfl⟩
              obtain ⟨z, hz⟩ : ∃ z, upTo k (numsK (mixK g (n + 1))) (numsK (mixK g n)) k = z := ⟨_, rfl⟩
              rw [Nat.zero_add] at c0 c1 c2 ck cs fs
              rw [h0] at c0 r0 hval
              rw [h1] at c1 r1 hval
              rw [h2] at c2 r2 hval
              rw [hpk] at ck rk hval
              rw [hz] at cs
              have HVA := hid hval
              obtain ⟨r00, r01⟩ := r0
              obtain ⟨r10, r11⟩ := r1
              obtain ⟨r20, r21⟩ := r2
              obtain ⟨rk0, rk1⟩ := rk
              obtain ⟨a0, a1⟩ := addQ_rng p0 p1
              obtain ⟨d0, d1⟩ := addQ_rng p2 pk
              clear hval h0 h1 h2 hpk hz
              have k0 : (0 : Int) ≤ (k : Int) := by omega
              have k1 : (k : Int) < 3 := by omega
              go_wp2_with fail
              refine wp_region_still_tail 17 Tryd.mixedS (by kernel_rfl) ?_
              simp only [List.take_succ_cons, List.take_zero, List.drop_succ_cons, List.drop_zero]
              iterate 6 still_step
              still_call (radd_any p0 p1 _ (by omega) (by omega) (by omega) (by omega))
              iterate 5 still_step
              still_call (radd_any p2 pk _ (by omega) (by omega) (by omega) (by omega))
              still_call (radd_any (addQ p0 p1) (addQ p2 pk) _ (by omega) (by omega) (by omega) (by omega))
              iterate 3 still_step
              refine wpStill_nil ?_
              go_wp2_with fail
              go_roundg (3 - (k + 1))
              case measure => go_light; omega
              case rel => exact ⟨k + 1, by omega, rfl, by go_num, hid (((HM.out.drew).putS hne k hlt2 _).congr (fun j _ => upTo_step k _ _ _ HVA.out j) fun _ _ => rfl)⟩
            · have e : k = 3 := by omega
              subst e
              go_wp2_with fail
              go_roundg (8 - (n + 1))
              case measure => go_light; omega
              case rel => exact ⟨n + 1, by omega, rfl, by go_num, hid HM.out.t, hid (HM.out.r.congr fun j hj => by rw [upTo, if_pos hj]), hid HM.out.f⟩
    · have e : n = 8 := by omega
      subst e
      go_wp2_with fail
      go_end0
      exact ⟨rfl, HTU.out, HR.out, HF.out⟩

end Go.Proofs.YtnnjajmkfgnhcaaDoor

/-
  Contracts of tallyref's Sponge: Give and Take; each turns the sponge's own block, makes new ones, and writes nothing else that was there.
-/
namespace Go.Proofs.YtnnjajmkfgnhcaaDoor
open Go.RowKit
set_option linter.unusedVariables false
attribute [local go_sem ↓] Go.wp_at_zero Go.wp_at_succ

set_option maxHeartbeats 1000000 in
theorem rgive_any (b : Nat) (g : Nat → K) (w : World) (hr : Row w b 0 3 (numsK g)) (hf : Free w b 0 3) :
    Calls Tryd.prog 85 #[.pointer (some ⟨b, 0, none⟩)] w fun e w' => e = .returned (.int .u64 (ofK (g 1))) ∧ Turned b w w' ∧ Row w' b 0 3 (numsK (mixed g)) ∧ Free w' b 0 3 := by
  have HM := hid (rmix_any b g w hr hf)
  have c1 := hr 1 (by omega)
  rw [Nat.zero_add] at c1
  obtain ⟨y, hy⟩ : ∃ y, ofK (g 1) = y := ⟨_, rfl⟩
  have hy2 : numsK g 1 = y := hy
  rw [hy2] at c1
  rw [hy]
  clear hr hf hy hy2
  go_enter Tryd.func85, Tryd.ntmps85
  go_wp2_with (go_at_call 96; refine (HM.out).mono ?_; rintro e w1 ⟨rfl, ht, hr, hf⟩; have HT := hid ht; have HR := hid hr; have HF := hid hf; clear ht hr hf)
  go_ret
  exact ⟨rfl, HT.out, HR.out, HF.out⟩

/-- A sponge's numbers behind k steps of Take. -/
def stK (g : Nat → K) (n : Nat) (f : Nat → Int) : Nat → Nat → K
  | 0 => g
  | k + 1 => takesK g n f k
theorem stK_step (g : Nat → K) (n : Nat) (f : Nat → Int) (k : Nat) : takeK (stK g n f k) (if k = 0 then kn n else kk (f (k - 1))) = stK g n f (k + 1) := by
  cases k with
  | zero => rfl
  | succ k => rw [if_neg (by omega)]; rfl
set_option maxHeartbeats 4000000 in
set_option maxRecDepth 100000 in
theorem rtake_any (b : Nat) (g : Nat → K) (ao : Option Addr) (n cap : Nat) (f : Nat → Int) (w : World) (hr : Row w b 0 3 (numsK g)) (hf : Free w b 0 3) (hn : n ≤ 1000) (hp : PRow w ao n f) (hv : Nums f) (hne : 0 < n → ∀ c o, ao = some ⟨c, o, none⟩ → c ≠ b) :
    Calls Tryd.prog 84 #[.pointer (some ⟨b, 0, none⟩), .slice ao n cap] w fun e w' => e = .returned (.tuple #[]) ∧ Turned b w w' ∧ Row w' b 0 3 (numsK (takesK g n f n)) ∧ Free w' b 0 3 := by
  have HR := hid hr
  have HF := hid hf
  have HP := hid hp
  have HV := hid hv
  have HNE := hid hne
  clear hr hf hp hv hne
  go_enter Tryd.func84, Tryd.ntmps84
  go_wp2_with fail
  go_loopg [4] (n + 1) (fun q i wr => ∃ (k : Nat) (t : Int), k ≤ n + 1 ∧ q = n + 1 - k ∧ i = .int .i64 t ∧ Hid (t = (k : Int) - 1) ∧ Hid (Turned b w wr) ∧ Hid (Row wr b 0 3 (numsK (stK g n f k))) ∧ Hid (Free wr b 0 3))
  case atStart => exact ⟨0, -1, by omega, rfl, rfl, hid rfl, hid (Turned.refl _ _), HR, HF⟩
  case round =>
    clear HR HF
    obtain ⟨k, t, hk, rfl, rfl, HT, HTU, HR, HF⟩ := hrel
    by_cases hlt : k < n + 1
    · have c1 := HR.out 0 (by omega)
      have f1 := HF.out 0 (by omega)
      rw [Nat.zero_add] at c1 f1
      obtain ⟨s, hs⟩ : ∃ s, ofK (stK g n f k 0) = s := ⟨_, rfl⟩
      have hs2 : numsK (stK g n f k) 0 = s := hs
      have sr := ofK_rng (stK g n f k 0)
      rw [hs] at sr
      rw [hs2] at c1
      obtain ⟨s0, s1⟩ := sr
      by_cases hk0 : k = 0
      · have ht : t = -1 := by have := HT.out; omega
        subst ht
        have hst := add_row (x := (n : Int)) HR.out HF.out
        rw [hs] at hst
        have HST := hid hst
        have HX : Hid (kk (n : Int) = if k = 0 then kn n else kk (f (k - 1))) := hid (by rw [if_pos hk0]; rfl)
        clear hs hs2 hst hk0
        have wn : IntKind.u64.wrap (n : Int) = (n : Int) := by rw [IntKind.wrap_u64]; omega
        have n0 : (-1 : Int) < (n : Int) := by omega
        go_wp2_with fail
        refine wp_region_still_tail 11 Tryd.mixedS (by kernel_rfl) ?_
        simp only [List.take_succ_cons, List.take_zero, List.drop_succ_cons, List.drop_zero]
        iterate 7 still_step
        still_call (radd_any s (n : Int) _ (by omega) (by omega) (by omega) (by omega))
        iterate 3 still_step
        refine wpStill_nil ?_
        go_wp2_with fail
        refine (rmix_any b _ _ (by exact HST.out.1) (by exact HST.out.2)).mono ?_
        rintro e w1 ⟨rfl, ht1, hr1, hf1⟩
        have HT1 : Hid (Turned b w w1) := hid ((HTU.out.setCell 0 (.int .u64 (addQ s (n : Int)))).trans ⟨ht1.os, ht1.tape, ht1.output, ht1.size, ht1.block⟩)
        have HR1 : Hid (Row w1 b 0 3 (numsK (stK g n f (k + 1)))) := hid (by rw [← stK_step, ← HX.out]; exact hr1)
        have HF1 := hid hf1
        clear ht1 hr1 hf1
        go_wp2_with fail
        go_roundg (n + 1 - (k + 1))
        case measure => go_light; omega
        case rel => exact ⟨k + 1, _, by omega, rfl, rfl, hid (by have := HT.out; omega), HT1, HR1, HF1⟩
      · obtain ⟨j, hj⟩ : ∃ j : Nat, k = j + 1 := ⟨k - 1, by omega⟩
        have ht : t = (j : Int) := by have := HT.out; omega
        subst ht
        obtain ⟨bl, ol, rfl, hrl⟩ := HP.out (by omega)
        have cl := (hrl.turned HTU.out (HNE.out (by omega) bl ol rfl)) j (by omega)
        obtain ⟨x, hx⟩ : ∃ x, f j = x := ⟨_, rfl⟩
        have bx := HV.out j
        rw [hx] at cl bx
        obtain ⟨x0, x1⟩ := bx
        have hst := add_row (x := x) HR.out HF.out
        rw [hs] at hst
        have HST := hid hst
        have HX : Hid (kk x = if k = 0 then kn n else kk (f (k - 1))) := hid (by rw [if_neg hk0, hj, Nat.add_sub_cancel, hx])
        clear hs hs2 hst hk0 hrl hx
        have j0 : (0 : Int) ≤ (j : Int) := by omega
        have j1 : (j : Int) < (n : Int) := by omega
        go_wp2_with fail
        refine wp_region_still_tail 11 Tryd.mixedS (by kernel_rfl) ?_
        simp only [List.take_succ_cons, List.take_zero, List.drop_succ_cons, List.drop_zero]
        iterate 7 still_step
        still_call (radd_any s x _ (by omega) (by omega) (by omega) (by omega))
        iterate 3 still_step
        refine wpStill_nil ?_
        go_wp2_with fail
        refine (rmix_any b _ _ (by exact HST.out.1) (by exact HST.out.2)).mono ?_
        rintro e w1 ⟨rfl, ht1, hr1, hf1⟩
        have HT1 : Hid (Turned b w w1) := hid ((HTU.out.setCell 0 (.int .u64 (addQ s x))).trans ⟨ht1.os, ht1.tape, ht1.output, ht1.size, ht1.block⟩)
        have HR1 : Hid (Row w1 b 0 3 (numsK (stK g n f (k + 1)))) := hid (by rw [← stK_step, ← HX.out]; exact hr1)
        have HF1 := hid hf1
        clear ht1 hr1 hf1
        go_wp2_with fail
        go_roundg (n + 1 - (k + 1))
        case measure => go_light; omega
        case rel => exact ⟨k + 1, _, by omega, rfl, rfl, hid (by have := HT.out; omega), HT1, HR1, HF1⟩
    · have e : k = n + 1 := by omega
      subst e
      have ht : t = (n : Int) := by have := HT.out; omega
      subst ht
      go_wp2_with fail
      go_end0
      exact ⟨rfl, HTU.out, HR.out, HF.out⟩

end Go.Proofs.YtnnjajmkfgnhcaaDoor

/-
  Contracts of tallyref's NewSponge and Pair, each for every input: they answer what the functions of the text Spong tell, and write nothing that was there.
-/
namespace Go.Proofs.YtnnjajmkfgnhcaaDoor
open Go.RowKit
set_option linter.unusedVariables false
attribute [local go_sem ↓] Go.wp_at_zero Go.wp_at_succ

theorem set3_new (word : Int) (j : Nat) : set3 0 1 (nrm word) j = numsK (newK word) j := by
  unfold set3 numsK newK
  by_cases h0 : j = 0
  · rw [if_pos h0, if_pos h0]; rfl
  · rw [if_neg h0, if_neg h0]
    by_cases h1 : j = 1
    · rw [if_pos h1, if_pos h1]; rfl
    · rw [if_neg h1, if_neg h1]; exact nrm_ofK word

set_option maxHeartbeats 1000000 in
theorem rnew_any (word : Int) (w : World) (h0 : 0 ≤ word) (h1 : word ≤ 18446744073709551615) :
    Calls Tryd.prog 83 #[.int .u64 word] w fun e w' => e = .returned (.pointer (some ⟨w.heap.size, 0, none⟩)) ∧ Below w.heap.size w w' ∧ w.heap.size < w'.heap.size ∧ Row w' w.heap.size 0 3 (numsK (mixed (newK word))) ∧ Free w' w.heap.size 0 3 := by
  obtain ⟨z, hz⟩ : ∃ z, nrm word = z := ⟨_, rfl⟩
  have hN := rnorm_any word w h0 h1
  rw [hz] at hN
  have HN := hid hN
  obtain ⟨hr, hf⟩ := row_new3 w 0 1 z 131
  have hM := rmix_any w.heap.size (newK word) _ (hr.congr fun j _ => by rw [← hz]; exact set3_new word j) hf
  have HM := hid hM
  have hlt := hr.lt (by omega)
  have HB : Hid (Below w.heap.size w (w.alloc (.cells #[.int .u64 0, .int .u64 1, .int .u64 z] 131))) := hid ((Below.refl _ w).alloc (Nat.le_refl _) _)
  have HLT := hid hlt
  clear hr hf hM hlt hN hz
  go_enter Tryd.func83, Tryd.ntmps83
  go_wp2_with (first
    | (go_at_call 35; refine (HN.out).mono ?_; rintro e w' ⟨rfl, hw⟩; obtain rfl := hw.symm)
    | (go_at_call 96; refine (HM.out).mono ?_; rintro e w1 ⟨rfl, ht, hr, hf⟩; have HT := hid ht; have HR := hid hr; have HF := hid hf; clear ht hr hf))
  go_ret
  exact ⟨rfl, HB.out.trans (HT.out.below (Nat.le_refl _) HB.out.size), Nat.lt_of_lt_of_le HLT.out HT.out.size, HR.out, HF.out⟩

set_option maxHeartbeats 1000000 in
set_option maxRecDepth 100000 in
theorem rpair_any (a b : Int) (w : World) (h0 : 0 ≤ a) (h1 : a ≤ 18446744073709551615) (g0 : 0 ≤ b) (g1 : b ≤ 18446744073709551615) :
    Calls Tryd.prog 64 #[.int .u64 a, .int .u64 b] w fun e w' => e = .returned (.int .u64 (ofK (pairK a b))) ∧ Below w.heap.size w w' := by
  have HN := hid (rnew_any 7 w (by omega) (by omega))
  go_enter Tryd.func64, Tryd.ntmps64
  go_wp2_with fail
  refine (HN.out).mono ?_
  rintro e w1 ⟨rfl, hb, hlt, hr, hf⟩
  have hB : Below w1.heap.size w1 (w1.alloc (.cells #[.int .u64 a, .int .u64 b] 26)) := (Below.refl _ w1).alloc (Nat.le_refl _) _
  have hT := rtake_any w.heap.size _ (some ⟨w1.heap.size, 0, none⟩) 2 2 (pairF a b) _ (hr.kept hB hlt) (hf.kept hB hlt) (by omega) (PRow.of (pair_lit w1 a b 26)) (Nums_pair h0 h1 g0 g1) (fun _ c o e => by injection e with e; injection e with e1 e2; omega)
  have HB : Hid (Below w.heap.size w (w1.alloc (.cells #[.int .u64 a, .int .u64 b] 26))) := hid (hb.trans (hB.mono hb.size))
  have HT := hid hT
  clear hb hr hf hB hT HN
  go_wp2_with fail
  refine (HT.out).mono ?_
  rintro e w2 ⟨rfl, ht, hr, hf⟩
  have HB2 : Hid (Below w.heap.size w w2) := hid (HB.out.trans (ht.below (Nat.le_refl _) HB.out.size))
  have HG := hid (rgive_any w.heap.size _ w2 hr hf)
  clear ht hr hf HB HT
  go_wp2_with fail
  refine (HG.out).mono ?_
  rintro e w3 ⟨rfl, ht, hr, hf⟩
  have HB3 : Hid (Below w.heap.size w w3) := hid (HB2.out.trans (ht.below (Nat.le_refl _) HB2.out.size))
  clear ht hr hf
  go_wp2_with fail
  go_ret
  exact ⟨rfl, HB3.out⟩

end Go.Proofs.YtnnjajmkfgnhcaaDoor

/-
  Contracts of tallyref's Root, for every table, each for every input; they write nothing that was there.
-/
namespace Go.Proofs.YtnnjajmkfgnhcaaDoor
open Go.RowKit
set_option linter.unusedVariables false
attribute [local go_sem ↓] Go.wp_at_zero Go.wp_at_succ

theorem Nums_part {f : Nat → Int} (h : Nums f) (k : Nat) : Nums (fun j => f (k + j)) := fun j => h _
theorem Row.half {w : World} {b off h : Nat} {f : Nat → Int} (r : Row w b off (2 * h) f) : Row w b off h f ∧ Row w b (off + h) h (fun j => f (h + j)) :=
  ⟨fun j hj => r j (by omega), fun j hj => by have := r (h + j) (by omega); rw [← Nat.add_assoc] at this; exact this⟩

theorem rpair_roots (n m : Nat) (F G : Nat → Int) (W : World) : Calls Tryd.prog 64 #[.int .u64 (rootQ n F), .int .u64 (rootQ m G)] W fun e w' => e = .returned (.int .u64 (prQ (rootQ n F) (rootQ m G))) ∧ Below W.heap.size W w' := by
  have r0 := rootQ_rng n F
  have r1 := rootQ_rng m G
  exact rpair_any _ _ W (by omega) (by omega) (by omega) (by omega)

set_option maxHeartbeats 1000000 in
set_option maxRecDepth 100000 in
theorem rroot_any (n : Nat) : ∀ (N b off cap : Nat) (f : Nat → Int) (w : World), n ≤ 8 → N = 2 ^ n → N ≤ cap → Row w b off N f → Nums f →
    Calls Tryd.prog 34 #[.slice (some ⟨b, off, none⟩) N cap] w fun e w' => e = .returned (.int .u64 (rootQ n f)) ∧ Below w.heap.size w w' := by
  induction n with
  | zero =>
    intro N b off cap f w _ hN hc hr hv
    have c0 := hr 0 (by omega)
    rw [Nat.add_zero] at c0
    have v0 := hv 0
    have he : prQ (f 0) 0 = rootQ 0 f := rfl
    obtain ⟨x, hx⟩ : ∃ x, f 0 = x := ⟨_, rfl⟩
    rw [hx] at c0 v0 he
    obtain ⟨v00, v01⟩ := v0
    have HE := hid he
    have hN1 : N = 1 := hN
    subst hN1
    clear hN hr hv hx he
    have HP := hid (rpair_any x 0 w (by omega) (by omega) (by omega) (by omega))
    go_enter Tryd.func34, Tryd.ntmps34
    go_wp2_with (go_at_call 64; refine (HP.out).mono ?_; rintro e w1 ⟨rfl, hb⟩; have HB := hid hb; clear hb)
    go_ret
    exact ⟨ret_u64 HE.out, HB.out⟩
  | succ n ih =>
    intro N b off cap f w hn hN hc hr hv
    obtain ⟨h, hh⟩ : ∃ h, 2 ^ n = h := ⟨_, rfl⟩
    have hN2 : N = 2 * h := by rw [hN, two_pow_succ, hh]; omega
    have hN8 : 2 ^ n ≤ 2 ^ 7 := Nat.pow_le_pow_right (by omega) (by omega)
    rw [hh] at hN8
    have h1 : 1 ≤ h := by rw [← hh]; exact Nat.one_le_two_pow
    subst hN2
    obtain ⟨hr1, hr2⟩ := hr.half
    have hlt := hr1.lt h1
    have HC := hid (fun (o m c : Nat) (W : World) (ho : off ≤ o) (ho2 : o ≤ off + h) (hm : m = h) (hc2 : m ≤ c) (hb : Below w.heap.size w W) => ih m b o c (fun j => f (o - off + j)) W (by omega) (by rw [hm, hh]) hc2 (fun j hj => by have := (hr.kept hb hlt) (o - off + j) (by omega); rw [show off + (o - off + j) = o + j from by omega] at this; exact this) (Nums_part hv _))
    have HE2 := hid (fun (F G : Nat → Int) (h1 : ∀ j, F j = f j) (h2 : ∀ j, G j = f (h + j)) => show prQ (rootQ n F) (rootQ n G) = rootQ (n + 1) f by rw [funext h1, funext h2, rootQ, hh])
    have hcn : ¬ cap = h := by omega
    have HP := hid (fun F G W => rpair_roots n n F G W)
    clear ih hr hv hr1 hr2 hN hn hh
    have i0 : (h : Int) ≤ (cap : Int) := by omega
    have i1 : (h : Int) ≤ ((2 * h : Nat) : Int) := by omega
    have i2 : (0 : Int) ≤ (h : Int) := by omega
    have e1 : (((2 * h : Nat) : Int) == 1) = false := beq_eq_false_iff_ne.2 (by omega)
    go_enter Tryd.func34, Tryd.ntmps34
    go_wp2_with fail
    have q2 : (2 * (h : Int)).tdiv 2 = (h : Int) := by rw [Int.mul_comm, Int.mul_tdiv_cancel _ (by omega)]
    have q3 : IntKind.i64.wrap (h : Int) = (h : Int) := IntWalk.i64_in _ (by omega)
    go_region_with (first
      | (go_at_call 34; refine (HC.out _ _ _ _ (by omega) (by omega) (by omega) (by omega) (by first | exact hb2 | exact Below.refl _ _ | exact (Below.refl _ w).drew)).mono ?_; rintro e w1 ⟨rfl, hb1⟩; have hb2 : Below w.heap.size w w1 := (by first | exact hb2.trans (hb1.mono hb2.size) | exact hb1 | exact (Below.refl _ w).drew.trans hb1); clear hb1)
      | (go_at_call 64; refine (HP.out _ _ _).mono ?_; rintro e w3 ⟨rfl, hb5⟩; have hb6 : Below w.heap.size w w3 := hb2.trans (hb5.mono hb2.size); clear hb5))
    all_goals (go_wp2_with fail)
    all_goals go_ret
    all_goals exact ⟨ret_u64 (HE2.out _ _ (fun j => by first | rfl | (congr 1; omega)) (fun j => by first | rfl | (congr 1; omega))), hb6⟩

end Go.Proofs.YtnnjajmkfgnhcaaDoor

/-
  Contracts of tallyref's Path, for every table and place; it makes new lists and writes nothing that was there.
-/
namespace Go.Proofs.YtnnjajmkfgnhcaaDoor
open Go.RowKit
set_option linter.unusedVariables false
attribute [local go_sem ↓] Go.wp_at_zero Go.wp_at_succ

theorem news_one (w : World) (x : Int) (t : TypeId) : ∀ j u, [Value.int .u64 x][j]? = some u → (w.alloc (.cells #[.int .u64 x] t)).cell? ((⟨w.heap.size, 0, none⟩ : Addr).add j) = some u := by
  intro j u hj
  match j, hj with
  | 0, hj => simp at hj; subst hj; simp [Addr.add]
theorem one_cell (x : Int) : ∀ u ∈ [Value.int .u64 x], u.oneCell' = true := by intro u hu; simp at hu; subst hu; rfl
/-- One number more behind a list of the call's own. -/
theorem own_snoc {w w1 w2 : World} {v : Value} {n g c : Nat} {f F : Nat → Int} {x : Int} {t : TypeId} (hb : Below w.heap.size w w1) (ho : Own w1 w.heap.size v n f)
    (hown : w2.ownsRow w.heap.size 26 1 (.slice (some ⟨g, 0, none⟩) (n + 1) c) (n + 1) (cellsOf n f ++ [.int .u64 x])) (hg : (w1.alloc (.cells #[.int .u64 x] t)).grownBy w2 v.ownBlock)
    (hF : ∀ j, j < n → f j = F j) (hx : x = F n) : Own w2 w.heap.size (.slice (some ⟨g, 0, none⟩) (n + 1) c) (n + 1) F ∧ Below w.heap.size w w2 := by
  refine ⟨?_, (hb.alloc hb.size _).grown hg (by have := hb.size; simp; omega) (by intro t ht; exact (World.ownsRow.lt ho t ht).1)⟩
  rw [cellsOf_snoc] at hown
  exact Own.congr hown fun j hj => by
    unfold catF
    by_cases e : j < n
    · rw [if_pos e]; exact hF j e
    · rw [if_neg e, show j = n from by omega]; exact hx

set_option maxHeartbeats 4000000 in
set_option maxRecDepth 100000 in
theorem rpath_any (n : Nat) : ∀ (N b off cap i : Nat) (f : Nat → Int) (w : World), n ≤ 8 → N = 2 ^ n → N ≤ cap → Row w b off N f → Nums f → i < N →
    Calls Tryd.prog 36 #[.slice (some ⟨b, off, none⟩) N cap, .int .i64 (i : Int)] w fun e w' => ∃ v, e = .returned v ∧ Own w' w.heap.size v n (pathQ n f i) ∧ Below w.heap.size w w' := by
  induction n with
  | zero =>
    intro N b off cap i f w _ hN hc hr hv hi
    have hN1 : N = 1 := hN
    subst hN1
    clear hN hr hv
    go_enter Tryd.func36, Tryd.ntmps36
    go_wp2_with fail
    go_ret
    exact ⟨_, rfl, Own.nil _ _ _, Below.refl _ _⟩
  | succ n ih =>
    intro N b off cap i f w hn hN hc hr hv hi
    obtain ⟨h, hh⟩ : ∃ h, 2 ^ n = h := ⟨_, rfl⟩
    have hN2 : N = 2 * h := by rw [hN, two_pow_succ, hh]; omega
    have hN8 : 2 ^ n ≤ 2 ^ 7 := Nat.pow_le_pow_right (by omega) (by omega)
    rw [hh] at hN8
    have h1 : 1 ≤ h := by rw [← hh]; exact Nat.one_le_two_pow
    subst hN2
    obtain ⟨hr1, hr2⟩ := hr.half
    have hlt := hr1.lt h1
    have hcn : ¬ cap = h := by omega
    have i0 : (h : Int) ≤ (cap : Int) := by omega
    have i1 : (h : Int) ≤ 2 * (h : Int) := by omega
    have i2 : (0 : Int) ≤ (h : Int) := by omega
    have e1 : (((2 * h : Nat) : Int) == 1) = false := beq_eq_false_iff_ne.2 (by omega)
    obtain ⟨i9, hi9, hz0, hz1, hz2⟩ := info_parts Tryd.infoO
    have HI := hid (And.intro hi9 (And.intro hz0 (And.intro hz1 hz2)))
    clear hi9 hz0 hz1 hz2
    by_cases hlow : i < h
    · have HC := hid (fun (m c : Nat) (q : Int) (W : World) (hm : m = h) (hc2 : m ≤ c) (hq : q = i) (hb : Below w.heap.size w W) => (by rw [hq]; exact ih m b off c i f W (by omega) (by rw [hm, hh]) hc2 (fun j hj => (hr.kept hb hlt) j (by omega)) hv (by omega) : Calls Tryd.prog 36 #[.slice (some ⟨b, off, none⟩) m c, .int .i64 q] W fun e w' => ∃ v, e = .returned v ∧ Own w' W.heap.size v n (pathQ n f i) ∧ Below W.heap.size W w'))
      obtain ⟨x, hx⟩ : ∃ x, rootQ n (fun j => f (h + j)) = x := ⟨_, rfl⟩
      have HR := hid (fun (m c : Nat) (W : World) (hm : m = h) (hc2 : m ≤ c) (hb : Below w.heap.size w W) => (by have := rroot_any n m b (off + h) c (fun j => f (h + j)) W (by omega) (by rw [hm, hh]) hc2 (fun j hj => (hr2.kept hb hlt) j (by omega)) (Nums_part hv _); rw [hx] at this; exact this : Calls Tryd.prog 34 #[.slice (some ⟨b, off + h, none⟩) m c] W fun e w' => e = .returned (.int .u64 x) ∧ Below W.heap.size W w'))
      have HF : Hid (∀ j, j < n → pathQ n f i j = pathQ (n + 1) f i j) := hid (fun j hj => by rw [pathQ, hh, if_pos hlow, if_pos hj])
      have HX : Hid (x = pathQ (n + 1) f i n) := hid (by rw [pathQ, hh, if_pos hlow, if_neg (Nat.lt_irrefl n), hx])
      have hlw : (i : Int) < (h : Int) := by omega
      clear ih hr hv hr1 hr2 hN hh hx
      go_enter Tryd.func36, Tryd.ntmps36
      go_wp2_with fail
      go_region_held3 (fun _ => True) (trivial) (first
        | (go_at_call 36; refine (HC.out _ _ _ _ (by omega) (by omega) (by omega) (by exact (Below.refl _ w).drew)).mono ?_; rintro e w1 ⟨v, rfl, ho, hb⟩; have hb1 : Below w.heap.size w w1 := (by exact (Below.refl _ w).drew.trans hb); have HO1 : Hid (Own w1 w.heap.size v n (pathQ n f i)) := hid (by exact ho); clear ho hb)
        | (go_at_call 34; refine (HR.out _ _ _ (by omega) (by omega) (by exact hb1)).mono ?_; rintro e w2 ⟨rfl, hb⟩; have hb2 : Below w.heap.size w w2 := hb1.trans (hb.mono hb1.size); have HO2 : Hid (Own w2 w.heap.size v n (pathQ n f i)) := hid (HO1.out.kept hb); have hs2 := hb2.size; clear hb)
        | (refine step_append_lies _ (by rfl) _ _ 22 (by rfl) w.heap.size 26 i9 (.int .u64 0) 1 8 Tryd.underlying22 HI.out.1 HI.out.2.1 HI.out.2.2.1 HI.out.2.2.2 rfl (by decide) v n (cellsOf n (pathQ n f i)) (by rfl) (World.ownsRow.alloc HO2.out _) ⟨w2.heap.size, 0, none⟩ 1 1 [.int .u64 x] (by rfl) (by rfl) (news_one w2 x _) (one_cell x) (by omega) (by unfold maxLen; omega) (by omega) (by simp; omega) (w2.heap.size + 1) (by simp) ?_; intro g3 c3 w3 hown3 hgrow3 hat3 hlt3))
      all_goals (have HS := hid (own_snoc (F := pathQ (n + 1) f i) hb2 HO2.out hown3 hgrow3 HF.out HX.out); clear hown3 hgrow3 hat3)
      all_goals (go_wp2_with fail)
      all_goals go_ret
      all_goals exact ⟨_, rfl, HS.out.1, HS.out.2⟩
    · have HC := hid (fun (m c : Nat) (q : Int) (W : World) (hm : m = h) (hc2 : m ≤ c) (hq : q = (i : Int) - h) (hb : Below w.heap.size w W) => (by rw [hq, show (i : Int) - h = ((i - h : Nat) : Int) from by omega]; exact ih m b (off + h) c (i - h) (fun j => f (h + j)) W (by omega) (by rw [hm, hh]) hc2 (fun j hj => (hr2.kept hb hlt) j (by omega)) (Nums_part hv _) (by omega) : Calls Tryd.prog 36 #[.slice (some ⟨b, off + h, none⟩) m c, .int .i64 q] W fun e w' => ∃ v, e = .returned v ∧ Own w' W.heap.size v n (pathQ n (fun j => f (h + j)) (i - h)) ∧ Below W.heap.size W w'))
      obtain ⟨x, hx⟩ : ∃ x, rootQ n f = x := ⟨_, rfl⟩
      have HR := hid (fun (m c : Nat) (W : World) (hm : m = h) (hc2 : m ≤ c) (hb : Below w.heap.size w W) => (by have := rroot_any n m b off c f W (by omega) (by rw [hm, hh]) hc2 (fun j hj => (hr1.kept hb hlt) j (by omega)) hv; rw [hx] at this; exact this : Calls Tryd.prog 34 #[.slice (some ⟨b, off, none⟩) m c] W fun e w' => e = .returned (.int .u64 x) ∧ Below W.heap.size W w'))
      have HF : Hid (∀ j, j < n → pathQ n (fun j => f (h + j)) (i - h) j = pathQ (n + 1) f i j) := hid (fun j hj => by rw [pathQ, hh, if_neg hlow, if_pos hj])
      have HX : Hid (x = pathQ (n + 1) f i n) := hid (by rw [pathQ, hh, if_neg hlow, if_neg (Nat.lt_irrefl n), hx])
      have hlw : ¬ (i : Int) < (h : Int) := by omega
      have hws : IntKind.i64.wrap ((i : Int) - (h : Int)) = (i : Int) - (h : Int) := IntWalk.i64_in _ (by omega)
      clear ih hr hv hr1 hr2 hN hh hx
      go_enter Tryd.func36, Tryd.ntmps36
      go_wp2_with fail
      go_region_held3 (fun _ => True) (trivial) (first
        | (go_at_call 36; refine (HC.out _ _ _ _ (by omega) (by omega) (by omega) (by exact (Below.refl _ w).drew)).mono ?_; rintro e w1 ⟨v, rfl, ho, hb⟩; have hb1 : Below w.heap.size w w1 := (by exact (Below.refl _ w).drew.trans hb); have HO1 : Hid (Own w1 w.heap.size v n (pathQ n (fun j => f (h + j)) (i - h))) := hid (by exact ho); clear ho hb)
        | (go_at_call 34; refine (HR.out _ _ _ (by omega) (by omega) (by exact hb1)).mono ?_; rintro e w2 ⟨rfl, hb⟩; have hb2 : Below w.heap.size w w2 := hb1.trans (hb.mono hb1.size); have HO2 : Hid (Own w2 w.heap.size v n (pathQ n (fun j => f (h + j)) (i - h))) := hid (HO1.out.kept hb); have hs2 := hb2.size; clear hb)
        | (refine step_append_lies _ (by rfl) _ _ 22 (by rfl) w.heap.size 26 i9 (.int .u64 0) 1 8 Tryd.underlying22 HI.out.1 HI.out.2.1 HI.out.2.2.1 HI.out.2.2.2 rfl (by decide) v n (cellsOf n (pathQ n (fun j => f (h + j)) (i - h))) (by rfl) (World.ownsRow.alloc HO2.out _) ⟨w2.heap.size, 0, none⟩ 1 1 [.int .u64 x] (by rfl) (by rfl) (news_one w2 x _) (one_cell x) (by omega) (by unfold maxLen; omega) (by omega) (by simp; omega) (w2.heap.size + 1) (by simp) ?_; intro g3 c3 w3 hown3 hgrow3 hat3 hlt3))
      all_goals (have HS := hid (own_snoc (F := pathQ (n + 1) f i) hb2 HO2.out hown3 hgrow3 HF.out HX.out); clear hown3 hgrow3 hat3)
      all_goals (go_wp2_with fail)
      all_goals go_ret
      all_goals exact ⟨_, rfl, HS.out.1, HS.out.2⟩

end Go.Proofs.YtnnjajmkfgnhcaaDoor

/-
  Memory of tallyref's Proof: lists of lists and lists of parts that the call itself appends to through boxes: what an append leaves, what stays; no program in it.
-/
namespace Go.Proofs.YtnnjajmkfgnhcaaDoor
open Go.RowKit
set_option linter.unusedVariables false

theorem nbel (w : World) (o : Obj) : Below w.heap.size w (w.alloc o) := (Below.refl _ w).alloc (Nat.le_refl _) o
theorem nkeep {W W' : World} (hb : Below W.heap.size W W') {a : Addr} {v : Value} (h : W.cell? a = some v) : W'.cell? a = some v := (hb.cell (World.block_lt_of_cell? W _ h)).trans h
/-- All blocks from base on are kept. -/
structure Kp (base : Nat) (W W' : World) : Prop where
  size : W.heap.size ≤ W'.heap.size
  block : ∀ b, base ≤ b → b < W.heap.size → W'.heap[b]? = W.heap[b]?
theorem Kp.of {base : Nat} {W W' : World} (h : Below W.heap.size W W') : Kp base W W' := ⟨h.size, fun b _ hb => h.block b hb⟩
theorem Kp.set (base : Nat) (W : World) {X j : Nat} (u : Value) (hX : X < base) : Kp base W (W.setCell ⟨X, j, none⟩ u) := ⟨by rw [World.size_setCell]; exact Nat.le_refl _, fun b hb _ => Below.heap_setCell _ _ _ _ (by show b ≠ X; omega)⟩
theorem Kp.trans {base : Nat} {W W' W'' : World} (h : Kp base W W') (g : Kp base W' W'') : Kp base W W'' := ⟨Nat.le_trans h.size g.size, fun b h1 h2 => (g.block b h1 (Nat.lt_of_lt_of_le h2 h.size)).trans (h.block b h1 h2)⟩
theorem Kp.mono {base base' : Nat} {W W' : World} (h : Kp base W W') (hb : base ≤ base') : Kp base' W W' := ⟨h.size, fun b h1 h2 => h.block b (by omega) h2⟩
theorem Kp.owns {base : Nat} {W W' : World} (h : Kp base W W') {t : TypeId} {s n : Nat} {v : Value} {l : List Value} (ho : W.ownsRow base t s v n l) : W'.ownsRow base t s v n l := by
  refine ⟨ho.1, ?_⟩
  rcases ho.2 with h2 | ⟨g, cap, cur, hv, hg, hh, r⟩
  · exact .inl h2
  · have hlt : g < W.heap.size := (Array.getElem?_eq_some_iff.1 hh).1
    exact .inr ⟨g, cap, cur, hv, hg, (h.block g hg hlt).trans hh, r⟩
theorem Kp.prow {base : Nat} {W W' : World} (h : Kp base W W') {ao : Option Addr} {n : Nat} {f : Nat → Int} (hr : PRow W ao n f) (hlo : ∀ a, ao = some a → base ≤ a.block) : PRow W' ao n f := fun h0 => by
  obtain ⟨b, off, e, hr2⟩ := hr h0
  exact ⟨b, off, e, fun j hj => (World.cell?_of_block (h.block b (hlo _ e) (World.block_lt_of_cell? W _ (hr2 j hj)))).trans (hr2 j hj)⟩
/-- A list of lists of the call's own, all from base on. -/
structure RndS (W : World) (base : Nat) (v : Value) (n : Nat) (A : Nat → Option Addr) (L C : Nat → Nat) (F : Nat → Nat → Int) : Prop where
  ov : OwnV W base v n A L C F
  lo : ∀ i, i < n → ∀ a, A i = some a → base ≤ a.block
theorem RndS.keep {base : Nat} {W W' : World} {v : Value} {n : Nat} {A : Nat → Option Addr} {L C : Nat → Nat} {F : Nat → Nat → Int} (h : RndS W base v n A L C F) (k : Kp base W W') : RndS W' base v n A L C F :=
  ⟨⟨k.owns h.ov.own, h.ov.apart, fun i hi a e => Nat.lt_of_lt_of_le (h.ov.lt i hi a e) k.size, fun i hi => k.prow (h.ov.row i hi) (h.lo i hi)⟩, h.lo⟩
theorem RndS.next {W W' : World} {base : Nat} {v : Value} {n : Nat} {A : Nat → Option Addr} {L C : Nat → Nat} {F : Nat → Nat → Int} {g cap l d bu : Nat} {f : Nat → Int} (h : RndS W base v n A L C F)
    (ho : W'.ownsRow base 22 1 (.slice (some ⟨g, 0, none⟩) (n + 1) cap) (n + 1) (slv n A L C ++ [.slice (some ⟨bu, 0, none⟩) l d])) (hg : W.grownBy W' v.ownBlock) (hat : v.ownBlock = some g ∨ g = W.heap.size)
    (hb : bu < W.heap.size) (hlo : base ≤ bu) (hne : v.ownBlock ≠ some bu) (hr : Row W bu 0 l f) : RndS W' base (.slice (some ⟨g, 0, none⟩) (n + 1) cap) (n + 1) (putO A n (some ⟨bu, 0, none⟩)) (putA L n l) (putA C n d) (putF F n f) :=
  ⟨h.ov.next ho hg hat (fun a e => by cases e; exact hb) (fun a e => by cases e; exact hne) (PRow.of hr), fun i hi a e => by
    unfold putO at e
    by_cases e2 : i = n
    · rw [if_pos e2] at e; cases e; exact hlo
    · rw [if_neg e2] at e; exact h.lo i (by omega) a e⟩

/-- Two cells a part. -/
def pcV (a b : Nat → Value) (j : Nat) : Value := if j % 2 = 0 then a (j / 2) else b (j / 2)
def pcsV (a b : Nat → Value) (n : Nat) : List Value := (List.range (n * 2)).map (pcV a b)
def putV (a : Nat → Value) (k : Nat) (x : Value) (i : Nat) : Value := if i = k then x else a i
theorem pcsV_len (a b : Nat → Value) (n : Nat) : (pcsV a b n).length = n * 2 := by simp [pcsV]
theorem pcsV_at (a b : Nat → Value) (n j : Nat) (h : j < n * 2) : (pcsV a b n)[j]? = some (pcV a b j) := by simp [pcsV, h]
theorem pcsV_congr {a b a' b' : Nat → Value} {n : Nat} (ha : ∀ j, j < n → a j = a' j) (hb : ∀ j, j < n → b j = b' j) : pcsV a b n = pcsV a' b' n := by
  unfold pcsV
  refine List.map_congr_left fun j hj => ?_
  have hj := List.mem_range.1 hj
  unfold pcV
  rw [ha (j / 2) (by omega), hb (j / 2) (by omega)]
theorem pcsV_snoc (a b : Nat → Value) (n : Nat) : pcsV a b n ++ [a n, b n] = pcsV a b (n + 1) := by
  unfold pcsV
  rw [show (n + 1) * 2 = n * 2 + 1 + 1 from by omega, List.range_succ, List.range_succ, List.map_append, List.map_append, List.append_assoc]
  congr 1
  show [a n, b n] = [pcV a b (n * 2)] ++ [pcV a b (n * 2 + 1)]
  unfold pcV
  rw [if_pos (by omega), if_neg (by omega), show n * 2 / 2 = n from by omega, show (n * 2 + 1) / 2 = n from by omega]
  rfl
def raV (m : PM) (p : PQ) (j : Nat) : Value := .slice (m.ra j) (p.rn j) (m.rc j)
def laV (m : PM) (p : PQ) (j : Nat) : Value := .slice (m.la j) (p.ln j) (m.lc j)
/-- Part j lies there. -/
def PartR (W : World) (p : PQ) (m : PM) (j : Nat) : Prop := LRow W (m.ra j) (p.rn j) (m.A j) (p.rl j) (m.C j) (p.R j) ∧ PRow W (m.la j) (p.ln j) (p.L j)
/-- In blocks of S. -/
def PartA (S : Nat → Prop) (p : PQ) (m : PM) (j : Nat) : Prop := (∀ a, m.ra j = some a → S a.block) ∧ (∀ a, m.la j = some a → S a.block) ∧ ∀ i, i < p.rn j → ∀ a, m.A j i = some a → S a.block
theorem PartA.mono {S S' : Nat → Prop} {p : PQ} {m : PM} {j : Nat} (h : PartA S p m j) (hs : ∀ b, S b → S' b) : PartA S' p m j := ⟨fun a e => hs _ (h.1 a e), fun a e => hs _ (h.2.1 a e), fun i hi a e => hs _ (h.2.2 i hi a e)⟩
theorem PartR.keep {W W' : World} {S : Nat → Prop} {p : PQ} {m : PM} {j : Nat} (h : PartR W p m j) (ha : PartA S p m j) (hk : ∀ b, S b → W'.heap[b]? = W.heap[b]?) : PartR W' p m j := by
  have pk : ∀ (ao : Option Addr) (n : Nat) (f : Nat → Int), (∀ a, ao = some a → S a.block) → PRow W ao n f → PRow W' ao n f := fun ao n f hs hr h0 => by
    obtain ⟨b, off, e, hr2⟩ := hr h0
    exact ⟨b, off, e, fun j hj => (World.cell?_of_block (hk b (hs _ e))).trans (hr2 j hj)⟩
  refine ⟨fun h0 => ?_, pk _ _ _ ha.2.1 h.2⟩
  obtain ⟨b, off, e, hr⟩ := h.1 h0
  exact ⟨b, off, e, fun i hi => ⟨(World.cell?_of_block (hk b (ha.1 _ e))).trans (hr i hi).1, pk _ _ _ (ha.2.2 i hi) (hr i hi).2⟩⟩

end Go.Proofs.YtnnjajmkfgnhcaaDoor

/-
  Contracts of the document's own answers for tables, tallyref's Eval (the sum over all corners) and bits, each for every input; they make new rows and write nothing that was there.
-/
namespace Go.Proofs.YtnnjajmkfgnhcaaDoor
open Go.RowKit
set_option linter.unusedVariables false
attribute [local go_sem ↓] Go.wp_at_zero Go.wp_at_succ

theorem req_p (ao : Option Addr) (n cap : Nat) (g : Nat → Int) (at0 : Nat) (w : World) (hn : n ≤ 1000) (hp : PRow w ao n g) (hv : Nums g) (hat : at0 ≤ 100000) :
    Calls Tryd.prog 82 #[.slice ao n cap, .int .i64 (at0 : Int)] w fun e w' => e = .returned (.int .u64 (ofK (eqK (fun j => kk (g j)) n at0))) ∧ w' = w := by
  by_cases h0 : 0 < n
  · obtain ⟨b, off, rfl, hr⟩ := hp h0
    exact req_any b off n cap g at0 w hn hr hv hat
  · obtain rfl : n = 0 := by omega
    exact req_zero ao cap at0 w hat

theorem ev_step (f : Nat → Int) (g : Nat → K) (n k : Nat) (z a : Int) (hz : z = ofK (sK (fun b => kk (f b) * eqK g n b) k)) (ha : f k = a) : addQ z (mulQ a (ofK (eqK g n k))) = ofK (sK (fun b => kk (f b) * eqK g n b) (k + 1)) := by
  rw [addQ_ofK, hz, kk_ofK, kk_mulQ, kk_ofK, sK, ha]
set_option maxHeartbeats 2000000 in
set_option maxRecDepth 100000 in
theorem reval_any (b off n N cap cap2 : Nat) (ao : Option Addr) (f g : Nat → Int) (w : World) (hn : n ≤ 1000) (hN : N = 2 ^ n) (hN2 : N ≤ 1000) (hr : Row w b off N f) (hv : Nums f) (hp : PRow w ao n g) (hg : Nums g) :
    Calls Tryd.prog 61 #[.slice (some ⟨b, off, none⟩) N cap, .slice ao n cap2] w fun e w' => e = .returned (.int .u64 (ofK (evS (fun j => kk (f j)) (fun j => kk (g j)) n))) ∧ Below w.heap.size w w' := by
  have HE := hid (fun k (hk : k ≤ 1000) w' (h : PRow w' ao n g) => req_p ao n cap2 g k w' hn h hg (by omega))
  have HR := hid hr
  have HV := hid hv
  have HP := hid hp
  have HN := hid hN
  clear hr hv hp hg hN
  go_enter Tryd.func61, Tryd.ntmps61
  go_wp2_with fail
  go_loopg [5, 6] N (fun q o i wr => ∃ (k : Nat) (z : Int), k ≤ N ∧ q = N - k ∧ o = .int .u64 z ∧ i = .int .i64 (k : Int) ∧ 0 ≤ z ∧ z ≤ 2305843009213693950 ∧ Hid (z = ofK (sK (fun b => kk (f b) * eqK (fun j => kk (g j)) n b) k)) ∧ Hid (Row wr b off N f) ∧ Hid (PRow wr ao n g) ∧ Hid (Below w.heap.size w wr))
  case atStart => exact ⟨0, 0, by omega, rfl, rfl, rfl, by omega, by omega, hid rfl, HR, HP, hid (Below.refl _ _)⟩
  case round =>
    clear HR HP
    obtain ⟨k, z, hk, rfl, rfl, rfl, z0, z1, HZ, HR, HP, HB⟩ := hrel
    by_cases hlt : k < N
    · have c1 := HR.out k hlt
      obtain ⟨a, ha⟩ : ∃ a, f k = a := ⟨_, rfl⟩
      have ba := HV.out k
      rw [ha] at c1 ba
      obtain ⟨a0, a1⟩ := ba
      have HA := hid ha
      clear ha
      have he := HE.out k (by omega)
      have hst := fun z h => ev_step f (fun j => kk (g j)) n k z a h HA.out
      obtain ⟨e0, e1⟩ := ofK_rng (eqK (fun j => kk (g j)) n k)
      generalize ofK (eqK (fun j => kk (g j)) n k) = y at he hst e0 e1
      have HE2 := hid he
      have HST := hid (hst z HZ.out)
      clear he hst
      obtain ⟨m0, m1⟩ := mulQ_rng a y
      have k0 : (0 : Int) ≤ (k : Int) := by omega
      have k1 : (k : Int) < (N : Int) := by omega
      go_wp2_with fail
      go_region_with (first | (go_at_call 82; refine (HE2.out _ (by exact HP.out)).mono ?_; rintro e w' ⟨rfl, hw⟩; obtain rfl := hw.symm) | (go_at_call 81; refine (rmul_any _ _ _ (by omega) (by omega) (by omega) (by omega)).mono ?_; rintro e w' ⟨rfl, hw⟩; obtain rfl := hw.symm) | (go_at_call 80; refine (radd_any _ _ _ (by omega) (by omega) (by omega) (by omega)).mono ?_; rintro e w' ⟨rfl, hw⟩; obtain rfl := hw.symm))
      all_goals (go_wp2_with fail)
      all_goals (go_roundg (N - (k + 1)))
      all_goals first | (go_light; omega) | (exact ⟨k + 1, _, by omega, rfl, rfl, by go_num, (addQ_rng _ _).1, (addQ_rng _ _).2, HST, hid HR.out.drew, hid HP.out.drew, hid HB.out.drew⟩)
    · have e : k = N := by omega
      subst e
      go_wp2_with fail
      go_ret
      exact ⟨ret_u64 (by rw [HZ.out, HN.out]; rfl), HB.out⟩

theorem Nums_bitF (b n : Nat) : Nums (bitF b n) := fun j => by unfold bitF; omega

theorem cast_shift (b q : Nat) : ((b / 2 ^ q : Nat) : Int) = (b : Int) / 2 ^ q := by simp
set_option maxHeartbeats 2000000 in
set_option maxRecDepth 100000 in
theorem rbits_any (at0 n : Nat) (w : World) (hn : n ≤ 60) (hat : at0 ≤ 100000) :
    Calls Tryd.prog 63 #[.int .i64 (at0 : Int), .int .i64 (n : Int)] w fun e w' => ∃ v, e = .returned v ∧ Own w' w.heap.size v n (bitF at0 n) ∧ Below w.heap.size w w' ∧ (n = 0 → v = .slice none 0 0) := by
  obtain ⟨i0, hi, hz0, hz1, hz2⟩ := info_parts Tryd.infoO
  have HI := hid (And.intro hi (And.intro hz0 (And.intro hz1 hz2)))
  clear hi hz0 hz1 hz2
  go_enter Tryd.func63, Tryd.ntmps63
  go_wp2_with fail
  go_loopg [5, 6] n (fun m o i wr => ∃ (k : Nat) (t : Int) (v : Value), k ≤ n ∧ m = n - k ∧ o = v ∧ i = .int .i64 t ∧ Hid (t = (n : Int) - 1 - k) ∧ Hid (Own wr w.heap.size v k (bitF at0 n)) ∧ Hid (Below w.heap.size w wr) ∧ Hid (k = 0 → v = .slice none 0 0))
  case atStart => exact ⟨0, _, _, by omega, rfl, rfl, rfl, hid (by omega), hid (Own.nil _ _ _), hid (Below.refl _ _), hid (fun _ => rfl)⟩
  case round =>
    obtain ⟨k, t, v, hk, rfl, rfl, rfl, HT, HO, HB, HK0⟩ := hrel
    by_cases hlt : k < n
    · obtain ⟨q, hq⟩ : ∃ q : Nat, q + k + 1 = n := ⟨n - 1 - k, by omega⟩
      have ht : t = (q : Int) := by have := HT.out; omega
      subst ht
      have hqn : q < n := by omega
      have q0 : (0 : Int) ≤ (q : Int) := by omega
      obtain ⟨s, hs⟩ : ∃ s : Nat, at0 / 2 ^ q = s := ⟨_, rfl⟩
      have hs2 : (at0 : Int) / 2 ^ q = (s : Int) := by rw [← hs]; simp
      have hsl : s ≤ 100000 := by rw [← hs]; exact Nat.le_trans (Nat.div_le_self _ _) hat
      have hy : bitF at0 n k = ((s % 2 : Nat) : Int) := by unfold bitF; rw [show n - 1 - k = q from by omega, hs]
      have HY := hid hy
      have s0 : (0 : Int) ≤ (s : Int) := by omega
      have hwu : IntKind.u64.wrap (((at0 : Int) / 2 ^ q).tmod 2) = (s : Int) % 2 := by
        rw [hs2, IntKind.wrap_u64, Int.tmod_eq_emod_of_nonneg s0]
        omega
      have hmin : min q 64 = q := Nat.min_eq_left (by omega)
      clear hq hy hs hs2
      go_wp2_with (at_builtin; refine wpList_append_lies _ rfl _ _ 22 rfl w.heap.size 26 i0 (.int .u64 0) 1 8 Tryd.underlying22 HI.out.1 HI.out.2.1 HI.out.2.2.1 HI.out.2.2.2 rfl (by decide) _ _ _ rfl (World.ownsRow.alloc HO.out _) ⟨wr.heap.size, 0, none⟩ 1 1 [.int .u64 ((s : Int) % 2)] rfl rfl ?qc2 ?qc3 ?qc4 ?qc5 ?qc6 ?qc7 (wr.heap.size + 1) ?qc8 ?_)
      case qc2 =>
        intro j u hj
        match j, hj with
        | 0, hj => simp at hj; subst hj; simp [Addr.add]
      case qc3 => intro u hu; simp at hu; subst hu; rfl
      case qc4 => omega
      case qc5 => unfold maxLen; omega
      case qc6 => omega
      case qc7 => have := HB.out.size; simp; omega
      case qc8 => simp
      intro g2 c2 w6 hown2 hgrow2 hat2 hlt2
      have HO6 : Hid (Own w6 w.heap.size (.slice (some ⟨g2, 0, none⟩) (k + 1) c2) (k + 1) (bitF at0 n)) := hid (by
        rw [cellsOf_snoc] at hown2
        exact Own.congr hown2 fun j hj => by
          unfold catF
          by_cases e : j < k
          · rw [if_pos e]
          · rw [if_neg e, show j = k from by omega, HY.out]; simp)
      have HB6 : Hid (Below w.heap.size w w6) := hid ((HB.out.alloc HB.out.size _).grown hgrow2 (by have := HB.out.size; simp; omega) (by intro t ht; exact (World.ownsRow.lt HO.out t ht).1))
      clear hown2 hgrow2 hat2 hlt2
      go_wp2_with fail
      go_roundg (n - (k + 1))
      case measure => go_light; omega
      case rel => exact ⟨k + 1, _, _, by omega, rfl, rfl, rfl, hid (by have := HT.out; omega), HO6, HB6, hid (fun h => by omega)⟩
    · have e : k = n := by omega
      subst e
      have ht : t = -1 := by have := HT.out; omega
      subst ht
      go_wp2_with fail
      go_ret
      exact ⟨_, rfl, HO.out, HB.out, HK0.out⟩

end Go.Proofs.YtnnjajmkfgnhcaaDoor

/-
  A contract of tallyref's joined; it makes a new row and writes nothing that was there.
-/
namespace Go.Proofs.YtnnjajmkfgnhcaaDoor
open Go.RowKit
set_option linter.unusedVariables false
attribute [local go_sem ↓] Go.wp_at_zero Go.wp_at_succ

def catN (nv : Nat → Nat) : Nat → Nat
  | 0 => 0
  | k + 1 => catN nv k + nv k
def catFs (nv : Nat → Nat) (fv : Nat → Nat → Int) : Nat → Nat → Int
  | 0 => fun _ => 0
  | k + 1 => catF (catN nv k) (catFs nv fv k) (fv k)
theorem catN_le (nv : Nat → Nat) (m k : Nat) (hk : k ≤ m) (h : ∀ k, k < m → nv k ≤ 1000) : catN nv k ≤ 1000 * k := by
  induction k with
  | zero => simp [catN]
  | succ k ih => rw [catN]; have := ih (by omega); have := h k (by omega); omega

set_option maxHeartbeats 2000000 in
set_option maxRecDepth 100000 in
theorem joined_any (B o m cap : Nat) (av : Nat → Option Addr) (nv cv : Nat → Nat) (fv : Nat → Nat → Int) (w : World) (hm : m ≤ 10) (hl : ∀ k, k < m → w.cell? ⟨B, o + k, none⟩ = some (.slice (av k) (nv k) (cv k))) (hB : B < w.heap.size)
    (hp : ∀ k, k < m → PRow w (av k) (nv k) (fv k)) (hn : ∀ k, k < m → nv k ≤ 1000) :
    Calls Tryd.prog 62 #[.slice (some ⟨B, o, none⟩) m cap] w fun e w' => ∃ v, e = .returned v ∧ Own w' w.heap.size v (catN nv m) (catFs nv fv m) ∧ Below w.heap.size w w' := by
  obtain ⟨i0, hi, hz0, hz1, hz2⟩ := info_parts Tryd.infoO
  have HI := hid (And.intro hi (And.intro hz0 (And.intro hz1 hz2)))
  have HL := hid hl
  have HP := hid hp
  have HN := hid hn
  clear hi hz0 hz1 hz2 hl hp hn
  go_enter Tryd.func62, Tryd.ntmps62
  go_wp2_with fail
  go_loopg [3, 4] m (fun q x i wr => ∃ (k : Nat) (v : Value), k ≤ m ∧ q = m - k ∧ x = v ∧ i = .int .i64 (k : Int) ∧ Hid (Own wr w.heap.size v (catN nv k) (catFs nv fv k)) ∧ Hid (Below w.heap.size w wr))
  case atStart => exact ⟨0, _, by omega, rfl, rfl, rfl, hid (Own.nil _ _ _), hid (Below.refl _ _)⟩
  case round =>
    obtain ⟨k, v, hk, rfl, rfl, rfl, HO, HB⟩ := hrel
    by_cases hlt : k < m
    · have c1 := (HB.out.cell hB).trans (HL.out k hlt)
      have k0 : (0 : Int) ≤ (k : Int) := by omega
      have k1 : (k : Int) < (m : Int) := by omega
      by_cases hz : nv k = 0
      · rw [hz] at c1
        go_wp2_with (at_builtin; refine wpList_append_empty _ rfl _ _ 22 rfl w.heap.size 26 i0 1 Tryd.underlying22 HI.out.1 _ _ _ rfl HO.out _ _ rfl ?_)
        go_roundg (m - (k + 1))
        case measure => go_light; omega
        case rel =>
          refine ⟨k + 1, _, by omega, rfl, rfl, by go_num, hid ?_, HB⟩
          have h := HO.out
          rw [catN, hz, Nat.add_zero]
          exact h.congr fun j hj => by rw [catFs, catF, if_pos hj]
      · obtain ⟨b2, off2, e1, hr⟩ := HP.out k hlt (by omega)
        rw [e1] at c1
        have hn1 := HN.out k hlt
        have hcn := catN_le nv m k hk HN.out
        have HR := hid (hr.kept HB.out (hr.lt (by omega)))
        clear hr e1
        obtain ⟨n1, hn2⟩ : ∃ n1, nv k = n1 := ⟨_, rfl⟩
        rw [hn2] at c1 hn1 hz HR
        have HN2 := hid hn2
        clear hn2
        go_wp2_with (at_builtin; refine wpList_append_lies _ rfl _ _ 22 rfl w.heap.size 26 i0 (.int .u64 0) 1 8 Tryd.underlying22 HI.out.1 HI.out.2.1 HI.out.2.2.1 HI.out.2.2.2 rfl (by decide) _ _ _ rfl HO.out ⟨b2, off2, none⟩ n1 (cv k) (cellsOf n1 (fv k)) rfl ?qc1 ?qc2 ?qc3 ?qc4 ?qc5 ?qc6 ?qc7 wr.heap.size ?qc8 ?_)
        case qc1 => rw [cellsOf_len]; omega
        case qc2 => exact row_cells HR.out
        case qc3 => exact cellsOf_one _ _
        case qc4 => omega
        case qc5 => unfold maxLen; omega
        case qc6 => omega
        case qc7 => exact HB.out.size
        case qc8 => rfl
        intro g2 c2 w6 hown2 hgrow2 hat2 hlt2
        have HO6 : Hid (Own w6 w.heap.size (.slice (some ⟨g2, 0, none⟩) (catN nv k + n1) c2) (catN nv k + n1) (catF (catN nv k) (catFs nv fv k) (fv k))) := hid (by
          rw [cellsOf_cat] at hown2
          exact hown2)
        have HB6 : Hid (Below w.heap.size w w6) := hid (HB.out.grown hgrow2 HB.out.size (by intro t ht; exact (World.ownsRow.lt HO.out t ht).1))
        clear hown2 hgrow2 hat2 hlt2
        go_wp2_with fail
        go_roundg (m - (k + 1))
        case measure => go_light; omega
        case rel => exact ⟨k + 1, _, by omega, rfl, rfl, by go_num, hid (by rw [catN, HN2.out]; exact HO6.out), HB6⟩
    · have e : k = m := by omega
      subst e
      go_wp2_with fail
      go_ret
      exact ⟨_, rfl, HO.out, HB.out⟩

theorem joined_two (B cap : Nat) (a0 a1 : Option Addr) (n0 c0 n1 c1 : Nat) (f0 f1 : Nat → Int) (w : World) (h0 : w.cell? ⟨B, 0, none⟩ = some (.slice a0 n0 c0)) (h1 : w.cell? ⟨B, 1, none⟩ = some (.slice a1 n1 c1))
    (p0 : PRow w a0 n0 f0) (p1 : PRow w a1 n1 f1) (l0 : n0 ≤ 1000) (l1 : n1 ≤ 1000) :
    Calls Tryd.prog 62 #[.slice (some ⟨B, 0, none⟩) 2 cap] w fun e w' => ∃ v, e = .returned v ∧ Own w' w.heap.size v (n0 + n1) (catF n0 f0 f1) ∧ Below w.heap.size w w' := by
  have h := joined_any B 0 2 cap (fun k => if k = 0 then a0 else a1) (fun k => if k = 0 then n0 else n1) (fun k => if k = 0 then c0 else c1) (fun k => if k = 0 then f0 else f1) w (by omega)
    (fun k hk => by
      match k, hk with
      | 0, _ => exact h0
      | 1, _ => exact h1)
    (World.block_lt_of_cell? w _ h0)
    (fun k hk => by
      match k, hk with
      | 0, _ => exact p0
      | 1, _ => exact p1)
    (fun k hk => by
      match k, hk with
      | 0, _ => exact l0
      | 1, _ => exact l1)
  refine h.mono ?_
  rintro e w' ⟨v, rfl, ho, hb⟩
  refine ⟨v, rfl, ?_, hb⟩
  have e1 : catN (fun k => if k = 0 then n0 else n1) 2 = n0 + n1 := by simp [catN]
  rw [e1] at ho
  refine ho.congr fun j hj => ?_
  simp only [catFs, catN, if_pos, Nat.zero_add, catF]
  by_cases hj2 : j < n0
  · rw [if_pos hj2, if_neg (by omega), if_pos hj2]; simp
  · rw [if_neg hj2, if_neg hj2]; simp

end Go.Proofs.YtnnjajmkfgnhcaaDoor
