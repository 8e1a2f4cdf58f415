/-
  Several texts in one: RefSpong, RefSpong2, RefSpong3, RefTree, RefTree2, RefPfM, RefMle, RefMle2, RefPf0, RefC, RefC2, RefVal, RefGk1, RefSh, RefWir, RefWir2; each opens with what it holds.
-/
import Derived.Test.YtmjpcmeinlkfbaaDoorChecked
import Derived.Test.YtmjpcmeinlkfbaaDoorMFiat
import Derived.Test.YtmjpcmeinlkfbaaDoorOwn
import Derived.Test.YtmjpcmeinlkfbaaDoorRefA
import Derived.Test.YtmjpcmeinlkfbaaDoorRefN
import Derived.WalkKit
import Derived.Deep.LoopGhost
import Derived.Deep.Light
import Derived.Deep.OwnRows
import Derived.Deep.DrawnRows
import Derived.StillTailTactics
import Derived.Test.YtmjpcmeinlkfbaaDoorMOpA
import Derived.Deep.RegionWith
import Derived.Deep.RegionHeld3
import Derived.Deep.AppendLies
import Derived.Test.YtmjpcmeinlkfbaaDoorPrf
import Derived.Test.YtmjpcmeinlkfbaaDoorCircM
import Derived.Test.YtmjpcmeinlkfbaaDoorMulti
import Derived.Test.YtmjpcmeinlkfbaaDoorMleRef
import Derived.Test.YtmjpcmeinlkfbaaDoorRefVars
import Derived.Test.YtmjpcmeinlkfbaaDoorMGkA
import Derived.Test.YtmjpcmeinlkfbaaDoorCirc
import Derived.Test.YtmjpcmeinlkfbaaDoorRefIn
import Derived.Deep.QuietTactic
import Derived.Test.YtmjpcmeinlkfbaaDoorCircL
import Derived.Deep.Onto
import Derived.Test.YtmjpcmeinlkfbaaDoorGkrQ
import Derived.Test.YtmjpcmeinlkfbaaDoorWirC
import Derived.Test.YtmjpcmeinlkfbaaDoorWirQ
/-
  Contracts of tallyref's Sponge: mix, for every three numbers; it turns the sponge's own block, makes new ones, and writes nothing else that was there.
-/
namespace Go.Proofs.YtmjpcmeinlkfbaaDoor
open Go.RowKit
set_option linter.unusedVariables false
attribute [local go_sem ↓] Go.wp_at_zero Go.wp_at_succ

theorem Tryd.mixedS : Tryd.prog.follows .mixedOrders = true := by kernel_rfl
theorem Turned.new {b : Nat} {w w' : World} (h : Turned b w w') {c : Nat} (hc : w.heap.size ≤ c) (p : Nat) (u : Value) : Turned b w (w'.setCell ⟨c, p, none⟩ u) :=
  ⟨h.os, h.tape, h.output, by rw [World.size_setCell]; exact h.size, fun k hk hb => by rw [Below.heap_setCell _ _ _ _ (by show k ≠ c; omega)]; exact h.block k hk hb⟩
theorem Turned.alloc {b : Nat} {w w' : World} (h : Turned b w w') (x : Obj) : Turned b w (w'.alloc x) := h.trans (Turned.of_below ((Below.refl _ w').alloc (Nat.le_refl _) x))
theorem add_num (g : Nat → K) (k i : Nat) : addQ (numsK g k) ((i * (k + 1) : Nat) : Int) = ofK (g k + kn (i * (k + 1))) := by unfold numsK; rw [addQ_ofK, kk_ofK]; rfl
theorem sq_step (a : K) (i : Nat) (y : Int) (hy : y = ofK (sqK a i)) : mulQ y y = ofK (sqK a (i + 1)) := by rw [mulQ_ofK, hy, kk_ofK]; rfl
theorem p17_step (a : K) (x y : Int) (hx : x = ofK a) (hy : y = ofK (sqK a 4)) : mulQ y x = ofK (p17 a) := by rw [mulQ_ofK, hx, hy, kk_ofK, kk_ofK]; rfl
/-- What holds in a turn: the sponge's numbers, and the array beside it. -/
structure Mx (w W : World) (b : Nat) (f : Nat → Int) (tb : Nat) (h : Nat → Int) : Prop where
  t : Turned b w W
  r : Row W b 0 3 f
  f : Free W b 0 3
  tr : Row W tb 0 3 h
  tf : Free W tb 0 3
theorem Mx.putT {w W : World} {b tb : Nat} {f h : Nat → Int} (m : Mx w W b f tb h) (hn : w.heap.size ≤ tb) (hne : b ≠ tb) (k : Nat) (hk : k < 3) (x : Int) : Mx w (W.setCell ⟨tb, k, none⟩ (.int .u64 x)) b f tb (fun j => if j = k then x else h j) := by
  have hs := m.tr.store k x hk
  rw [Nat.zero_add] at hs
  have hW : Wrote tb k 1 W (W.setCell ⟨tb, k, none⟩ (.int .u64 x)) := (Wrote.refl _ _ _ _).store (Nat.le_refl _) (by omega) _
  exact ⟨m.t.new hn _ _, m.r.other hW hne, fun j hj => by rw [World.frozen?_setCell]; exact m.f j hj, hs, fun j hj => by rw [World.frozen?_setCell]; exact m.tf j hj⟩
theorem Mx.putS {w W : World} {b tb : Nat} {f h : Nat → Int} (m : Mx w W b f tb h) (hne : b ≠ tb) (k : Nat) (hk : k < 3) (x : Int) : Mx w (W.setCell ⟨b, k, none⟩ (.int .u64 x)) b (fun j => if j = k then x else f j) tb h := by
  have hs := m.r.store k x hk
  rw [Nat.zero_add] at hs
  have hW : Wrote b k 1 W (W.setCell ⟨b, k, none⟩ (.int .u64 x)) := (Wrote.refl _ _ _ _).store (Nat.le_refl _) (by omega) _
  exact ⟨m.t.setCell _ _, hs, fun j hj => by rw [World.frozen?_setCell]; exact m.f j hj, m.tr.other hW (Ne.symm hne), fun j hj => by rw [World.frozen?_setCell]; exact m.tf j hj⟩
theorem Mx.congr {w W : World} {b tb : Nat} {f h f' h' : Nat → Int} (m : Mx w W b f tb h) (e1 : ∀ j, j < 3 → f j = f' j) (e2 : ∀ j, j < 3 → h j = h' j) : Mx w W b f' tb h' := ⟨m.t, m.r.congr e1, m.f, m.tr.congr e2, m.tf⟩
theorem Mx.drew {w W : World} {b tb : Nat} {f h : Nat → Int} (m : Mx w W b f tb h) : Mx w W.drew b f tb h := ⟨m.t.drew, m.r, m.f, m.tr, m.tf⟩
theorem Mx.start {w W : World} {b : Nat} {f : Nat → Int} (ht : Turned b w W) (hr : Row W b 0 3 f) (hf : Free W b 0 3) (t : TypeId) : Mx w (W.alloc (.cells #[.int .u64 0, .int .u64 0, .int .u64 0] t)) b f W.heap.size (fun _ => 0) := by
  have hb : Below W.heap.size W (W.alloc (.cells #[.int .u64 0, .int .u64 0, .int .u64 0] t)) := (Below.refl _ W).alloc (Nat.le_refl _) _
  have hlt := hr.lt (by omega)
  refine ⟨ht.alloc _, hr.kept hb hlt, hf.kept hb hlt, fun j hj => ?_, fun j _ => ?_⟩
  · rw [Nat.zero_add, World.cell?_alloc_new]
    match j, hj with
    | 0, _ => rfl
    | 1, _ => rfl
    | 2, _ => rfl
  · rw [Nat.zero_add, World.frozen?_alloc_new]
theorem turn_val (g : Nat → K) (i k : Nat) : addQ (addQ (ofK (powK i g 0)) (ofK (powK i g 1))) (addQ (ofK (powK i g 2)) (ofK (powK i g k))) = ofK (turnK i g k) := by
  rw [addQ_ofK, kk_addQ, kk_addQ, kk_ofK, kk_ofK, kk_ofK, kk_ofK]; rfl
def upTo (k : Nat) (h f : Nat → Int) (j : Nat) : Int := if j < k then h j else f j
theorem upTo_step (k : Nat) (h f : Nat → Int) (x : Int) (hx : x = h k) (j : Nat) : (if j = k then x else upTo k h f j) = upTo (k + 1) h f j := by
  unfold upTo
  by_cases e : j = k
  · subst e; rw [if_pos rfl, if_pos (by omega), hx]
  · rw [if_neg e]
    by_cases h2 : j < k
    · rw [if_pos h2, if_pos (by omega)]
    · rw [if_neg h2, if_neg (by omega)]

set_option maxHeartbeats 4000000 in
set_option maxRecDepth 100000 in
theorem rmix_any (b : Nat) (g : Nat → K) (w : World) (hr : Row w b 0 3 (numsK g)) (hf : Free w b 0 3) :
    Calls Tryd.prog 98 #[.pointer (some ⟨b, 0, none⟩)] w fun e w' => e = .returned (.tuple #[]) ∧ Turned b w w' ∧ Row w' b 0 3 (numsK (mixed g)) ∧ Free w' b 0 3 := by
  have hblt : b < w.heap.size := hr.lt (by omega)
  have HR := hid hr
  have HF := hid hf
  clear hr hf
  go_enter Tryd.func98, Tryd.ntmps98
  go_wp2_with fail
  go_loopg [2] 8 (fun q i wr => ∃ n : Nat, n ≤ 8 ∧ q = 8 - n ∧ i = .int .i64 ((n : Int) + 1) ∧ Hid (Turned b w wr) ∧ Hid (Row wr b 0 3 (numsK (mixK g n))) ∧ Hid (Free wr b 0 3))
  case atStart => exact ⟨0, by omega, rfl, rfl, hid (Turned.refl _ _), HR, HF⟩
  case round =>
    clear HR HF
    obtain ⟨n, hn, rfl, rfl, HTU, HR, HF⟩ := hrel
    by_cases hlt : n < 8
    · have n0 : (n : Int) + 1 ≤ 8 := by omega
      go_wp2_with fail
      have hmx := Mx.start HTU.out HR.out HF.out 140
      obtain ⟨tb, htb⟩ : ∃ tb, wr.heap.size = tb := ⟨_, rfl⟩
      have hnew : w.heap.size ≤ tb := by rw [← htb]; exact HTU.out.size
      have hne : b ≠ tb := by omega
      rw [htb] at hmx ⊢
      clear htb HTU HR HF
      generalize wr.alloc (.cells #[.int .u64 0, .int .u64 0, .int .u64 0] 140) = W0 at hmx ⊢
      have HM0 := hid hmx
      clear hmx
      go_loopg [4] 3 (fun q i ws => ∃ k : Nat, k ≤ 3 ∧ q = 3 - k ∧ i = .int .i64 (k : Int) ∧ Hid (Mx w ws b (numsK (mixK g n)) tb (upTo k (fun j => ofK (powK (n + 1) (mixK g n) j)) (fun _ => 0))))
      case atStart => exact ⟨0, by omega, rfl, rfl, HM0⟩
      case round =>
        clear HM0
        obtain ⟨k, hk, rfl, rfl, HM⟩ := hrel
        by_cases hlt2 : k < 3
        · have c1 := HM.out.r k hlt2
          have c2 := HM.out.tr k hlt2
          have f2 := HM.out.tf k hlt2
          rw [Nat.zero_add] at c1 c2 f2
          obtain ⟨s, hs⟩ : ∃ s, numsK (mixK g n) k = s := ⟨_, rfl⟩
          obtain ⟨z, hz⟩ : ∃ z, upTo k (fun j => ofK (powK (n + 1) (mixK g n) j)) (fun _ => 0) k = z := ⟨_, rfl⟩
          have sr := numsK_rng (mixK g n) k
          have hadd := add_num (mixK g n) k (n + 1)
          obtain ⟨M, hM⟩ : ∃ M : Nat, (n + 1) * (k + 1) = M := ⟨_, rfl⟩
          have hM24 : M ≤ 24 := by rw [← hM]; exact Nat.mul_le_mul (show n + 1 ≤ 8 by omega) (show k + 1 ≤ 3 by omega)
          have HMI : Hid (((n : Int) + 1) * ((k : Int) + 1) = (M : Int)) := hid (by rw [← hM]; simp)
          rw [hM] at hadd
          rw [hs] at c1 sr hadd
          rw [hz] at c2
          obtain ⟨s0, s1⟩ := sr
          have wM : IntKind.u64.wrap (M : Int) = (M : Int) := by rw [IntKind.wrap_u64]; omega
          have hpk : p17 (mixK g n k + kn M) = powK (n + 1) (mixK g n) k := by unfold powK; rw [hM]
          obtain ⟨a, ha⟩ : ∃ a : K, mixK g n k + kn M = a := ⟨_, rfl⟩
          rw [ha] at hadd hpk
          have xr := ofK_rng a
          obtain ⟨x, hx⟩ : ∃ x, addQ s (M : Int) = x := ⟨_, rfl⟩
          have hxa : x = ofK a := by rw [← hx]; exact hadd
          rw [← hxa] at xr
          obtain ⟨x0, x1⟩ := xr
          have HXA := hid hxa
          have HPK := hid hpk
          have hra := fun W => radd_any s (M : Int) W (by omega) (by omega) (by omega) (by omega)
          rw [hx] at hra
          have HRA := hid hra
          clear hs hz hadd hM ha hx hxa hpk hra
          have k0 : (0 : Int) ≤ (k : Int) := by omega
          have k1 : (k : Int) < 3 := by omega
          have hMi := HMI.out
          go_wp2_with (go_at_call 39; refine (HRA.out _).mono ?_; rintro e w' ⟨rfl, hw⟩; obtain rfl := hw.symm)
          clear hMi wM
          obtain ⟨wo, rfl⟩ : ∃ q, q = wr := ⟨wr, rfl⟩
          go_loopg [6, 7] 4 (fun q y i ws => ∃ (i0 : Nat) (v : Int), i0 ≤ 4 ∧ q = 4 - i0 ∧ y = .int .u64 v ∧ i = .int .i64 (i0 : Int) ∧ 0 ≤ v ∧ v ≤ 2305843009213693950 ∧ Hid (v = ofK (sqK a i0)) ∧ ws = wo)
          case atStart => exact ⟨0, x, by omega, rfl, rfl, rfl, x0, x1, HXA, rfl⟩
          case round =>
            obtain ⟨i0, v, hi0, rfl, rfl, rfl, v0, v1, HV, hw⟩ := hrel
            obtain rfl := hw.symm
            by_cases hlt3 : i0 < 4
            · have HSQ := hid (sq_step a i0 v HV.out)
              have i1 : (i0 : Int) < 4 := by omega
              go_wp2_with (go_at_call 53; refine (rmul_any _ _ _ (by omega) (by omega) (by omega) (by omega)).mono ?_; rintro e w' ⟨rfl, hw⟩; obtain rfl := hw.symm)
              go_roundg (4 - (i0 + 1))
              case measure => go_light; omega
              case rel => exact ⟨i0 + 1, _, by omega, rfl, rfl, by go_num, (mulQ_rng _ _).1, (mulQ_rng _ _).2, HSQ, rfl⟩
            · have e : i0 = 4 := by omega
              subst e
              have HP := hid ((p17_step a x v HXA.out HV.out).trans (congrArg ofK HPK.out))
              go_wp2_with (go_at_call 53; refine (rmul_any _ _ _ (by omega) (by omega) (by omega) (by omega)).mono ?_; rintro e w' ⟨rfl, hw⟩; obtain rfl := hw.symm)
              go_roundg (3 - (k + 1))
              case measure => go_light; omega
              case rel => exact ⟨k + 1, by omega, rfl, by go_num, hid ((HM.out.putT hnew hne k hlt2 _).congr (fun _ _ => rfl) fun j _ => upTo_step k _ _ _ HP.out j)⟩
        · have e : k = 3 := by omega
          subst e
          have HM3 : Hid (Mx w wr b (numsK (mixK g n)) tb (fun j => ofK (powK (n + 1) (mixK g n) j))) := hid (HM.out.congr (fun _ _ => rfl) fun j hj => by rw [upTo, if_pos hj])
          clear HM
          go_wp2_with fail
          go_loopg [8] 3 (fun q i ws => ∃ k : Nat, k ≤ 3 ∧ q = 3 - k ∧ i = .int .i64 (k : Int) ∧ Hid (Mx w ws b (upTo k (numsK (mixK g (n + 1))) (numsK (mixK g n))) tb (fun j => ofK (powK (n + 1) (mixK g n) j))))
          case atStart => exact ⟨0, by omega, rfl, rfl, HM3⟩
          case round =>
            clear HM3
            obtain ⟨k, hk, rfl, rfl, HM⟩ := hrel
            by_cases hlt2 : k < 3
            · have c0 := HM.out.tr 0 (by omega)
              have c1 := HM.out.tr 1 (by omega)
              have c2 := HM.out.tr 2 (by omega)
              have ck := HM.out.tr k hlt2
              have cs := HM.out.r k hlt2
              have fs := HM.out.f k hlt2
              have hval := turn_val (mixK g n) (n + 1) k
              have r0 := ofK_rng (powK (n + 1) (mixK g n) 0)
              have r1 := ofK_rng (powK (n + 1) (mixK g n) 1)
              have r2 := ofK_rng (powK (n + 1) (mixK g n) 2)
              have rk := ofK_rng (powK (n + 1) (mixK g n) k)
              obtain ⟨p0, h0⟩ : ∃ x, ofK (powK (n + 1) (mixK g n) 0) = x := ⟨_, rfl⟩
              obtain ⟨p1, h1⟩ : ∃ x, ofK (powK (n + 1) (mixK g n) 1) = x := ⟨_, rfl⟩
              obtain ⟨p2, h2⟩ : ∃ x, ofK (powK (n + 1) (mixK g n) 2) = x := ⟨_, rfl⟩
              obtain ⟨pk, hpk⟩ : ∃ x, ofK (powK (n + 1) (mixK g n) k) = x := ⟨_, rfl⟩
              obtain ⟨z, hz⟩ : ∃ z, upTo k (numsK (mixK g (n + 1))) (numsK (mixK g n)) k = z := ⟨_, rfl⟩
              rw [Nat.zero_add] at c0 c1 c2 ck cs fs
              rw [h0] at c0 r0 hval
              rw [h1] at c1 r1 hval
              rw [h2] at c2 r2 hval
              rw [hpk] at ck rk hval
              rw [hz] at cs
              have HVA := hid hval
              obtain ⟨r00, r01⟩ := r0
              obtain ⟨r10, r11⟩ := r1
              obtain ⟨r20, r21⟩ := r2
              obtain ⟨rk0, rk1⟩ := rk
              obtain ⟨a0, a1⟩ := addQ_rng p0 p1
              obtain ⟨d0, d1⟩ := addQ_rng p2 pk
              clear hval h0 h1 h2 hpk hz
              have k0 : (0 : Int) ≤ (k : Int) := by omega
              have k1 : (k : Int) < 3 := by omega
              go_wp2_with fail
              refine wp_region_still_tail 17 Tryd.mixedS (by kernel_rfl) ?_
              simp only [List.take_succ_cons, List.take_zero, List.drop_succ_cons, List.drop_zero]
              iterate 6 still_step
              still_call (radd_any p0 p1 _ (by omega) (by omega) (by omega) (by omega))
              iterate 5 still_step
              still_call (radd_any p2 pk _ (by omega) (by omega) (by omega) (by omega))
              still_call (radd_any (addQ p0 p1) (addQ p2 pk) _ (by omega) (by omega) (by omega) (by omega))
              iterate 3 still_step
              refine wpStill_nil ?_
              go_wp2_with fail
              go_roundg (3 - (k + 1))
              case measure => go_light; omega
              case rel => exact ⟨k + 1, by omega, rfl, by go_num, hid (((HM.out.drew).putS hne k hlt2 _).congr (fun j _ => upTo_step k _ _ _ HVA.out j) fun _ _ => rfl)⟩
            · have e : k = 3 := by omega
              subst e
              go_wp2_with fail
              go_roundg (8 - (n + 1))
              case measure => go_light; omega
              case rel => exact ⟨n + 1, by omega, rfl, by go_num, hid HM.out.t, hid (HM.out.r.congr fun j hj => by rw [upTo, if_pos hj]), hid HM.out.f⟩
    · have e : n = 8 := by omega
      subst e
      go_wp2_with fail
      go_end0
      exact ⟨rfl, HTU.out, HR.out, HF.out⟩

end Go.Proofs.YtmjpcmeinlkfbaaDoor

/-
  Contracts of tallyref's Sponge: Give and Take; each turns the sponge's own block, makes new ones, and writes nothing else that was there.
-/
namespace Go.Proofs.YtmjpcmeinlkfbaaDoor
open Go.RowKit
set_option linter.unusedVariables false
attribute [local go_sem ↓] Go.wp_at_zero Go.wp_at_succ

set_option maxHeartbeats 1000000 in
theorem rgive_any (b : Nat) (g : Nat → K) (w : World) (hr : Row w b 0 3 (numsK g)) (hf : Free w b 0 3) :
    Calls Tryd.prog 82 #[.pointer (some ⟨b, 0, none⟩)] w fun e w' => e = .returned (.int .u64 (ofK (g 1))) ∧ Turned b w w' ∧ Row w' b 0 3 (numsK (mixed g)) ∧ Free w' b 0 3 := by
  have HM := hid (rmix_any b g w hr hf)
  have c1 := hr 1 (by omega)
  rw [Nat.zero_add] at c1
  obtain ⟨y, hy⟩ : ∃ y, ofK (g 1) = y := ⟨_, rfl⟩
  have hy2 : numsK g 1 = y := hy
  rw [hy2] at c1
  rw [hy]
  clear hr hf hy hy2
  go_enter Tryd.func82, Tryd.ntmps82
  go_wp2_with (go_at_call 98; refine (HM.out).mono ?_; rintro e w1 ⟨rfl, ht, hr, hf⟩; have HT := hid ht; have HR := hid hr; have HF := hid hf; clear ht hr hf)
  go_ret
  exact ⟨rfl, HT.out, HR.out, HF.out⟩

/-- A sponge's numbers behind k steps of Take. -/
def stK (g : Nat → K) (n : Nat) (f : Nat → Int) : Nat → Nat → K
  | 0 => g
  | k + 1 => takesK g n f k
theorem stK_step (g : Nat → K) (n : Nat) (f : Nat → Int) (k : Nat) : takeK (stK g n f k) (if k = 0 then kn n else kk (f (k - 1))) = stK g n f (k + 1) := by
  cases k with
  | zero => rfl
  | succ k => rw [if_neg (by omega)]; rfl
set_option maxHeartbeats 4000000 in
set_option maxRecDepth 100000 in
theorem rtake_any (b : Nat) (g : Nat → K) (ao : Option Addr) (n cap : Nat) (f : Nat → Int) (w : World) (hr : Row w b 0 3 (numsK g)) (hf : Free w b 0 3) (hn : n ≤ 1000) (hp : PRow w ao n f) (hv : Nums f) (hne : 0 < n → ∀ c o, ao = some ⟨c, o, none⟩ → c ≠ b) :
    Calls Tryd.prog 81 #[.pointer (some ⟨b, 0, none⟩), .slice ao n cap] w fun e w' => e = .returned (.tuple #[]) ∧ Turned b w w' ∧ Row w' b 0 3 (numsK (takesK g n f n)) ∧ Free w' b 0 3 := by
  have HR := hid hr
  have HF := hid hf
  have HP := hid hp
  have HV := hid hv
  have HNE := hid hne
  clear hr hf hp hv hne
  go_enter Tryd.func81, Tryd.ntmps81
  go_wp2_with fail
  go_loopg [4] (n + 1) (fun q i wr => ∃ (k : Nat) (t : Int), k ≤ n + 1 ∧ q = n + 1 - k ∧ i = .int .i64 t ∧ Hid (t = (k : Int) - 1) ∧ Hid (Turned b w wr) ∧ Hid (Row wr b 0 3 (numsK (stK g n f k))) ∧ Hid (Free wr b 0 3))
  case atStart => exact ⟨0, -1, by omega, rfl, rfl, hid rfl, hid (Turned.refl _ _), HR, HF⟩
  case round =>
    clear HR HF
    obtain ⟨k, t, hk, rfl, rfl, HT, HTU, HR, HF⟩ := hrel
    by_cases hlt : k < n + 1
    · have c1 := HR.out 0 (by omega)
      have f1 := HF.out 0 (by omega)
      rw [Nat.zero_add] at c1 f1
      obtain ⟨s, hs⟩ : ∃ s, ofK (stK g n f k 0) = s := ⟨_, rfl⟩
      have hs2 : numsK (stK g n f k) 0 = s := hs
      have sr := ofK_rng (stK g n f k 0)
      rw [hs] at sr
      rw [hs2] at c1
      obtain ⟨s0, s1⟩ := sr
      by_cases hk0 : k = 0
      · have ht : t = -1 := by have := HT.out; omega
        subst ht
        have hst := add_row (x := (n : Int)) HR.out HF.out
        rw [hs] at hst
        have HST := hid hst
        have HX : Hid (kk (n : Int) = if k = 0 then kn n else kk (f (k - 1))) := hid (by rw [if_pos hk0]; rfl)
        clear hs hs2 hst hk0
        have wn : IntKind.u64.wrap (n : Int) = (n : Int) := by rw [IntKind.wrap_u64]; omega
        have n0 : (-1 : Int) < (n : Int) := by omega
        go_wp2_with fail
        refine wp_region_still_tail 11 Tryd.mixedS (by kernel_rfl) ?_
        simp only [List.take_succ_cons, List.take_zero, List.drop_succ_cons, List.drop_zero]
        iterate 7 still_step
        still_call (radd_any s (n : Int) _ (by omega) (by omega) (by omega) (by omega))
        iterate 3 still_step
        refine wpStill_nil ?_
        go_wp2_with fail
        refine (rmix_any b _ _ (by exact HST.out.1) (by exact HST.out.2)).mono ?_
        rintro e w1 ⟨rfl, ht1, hr1, hf1⟩
        have HT1 : Hid (Turned b w w1) := hid ((HTU.out.setCell 0 (.int .u64 (addQ s (n : Int)))).trans ⟨ht1.os, ht1.tape, ht1.output, ht1.size, ht1.block⟩)
        have HR1 : Hid (Row w1 b 0 3 (numsK (stK g n f (k + 1)))) := hid (by rw [← stK_step, ← HX.out]; exact hr1)
        have HF1 := hid hf1
        clear ht1 hr1 hf1
        go_wp2_with fail
        go_roundg (n + 1 - (k + 1))
        case measure => go_light; omega
        case rel => exact ⟨k + 1, _, by omega, rfl, rfl, hid (by have := HT.out; omega), HT1, HR1, HF1⟩
      · obtain ⟨j, hj⟩ : ∃ j : Nat, k = j + 1 := ⟨k - 1, by omega⟩
        have ht : t = (j : Int) := by have := HT.out; omega
        subst ht
        obtain ⟨bl, ol, rfl, hrl⟩ := HP.out (by omega)
        have cl := (hrl.turned HTU.out (HNE.out (by omega) bl ol rfl)) j (by omega)
        obtain ⟨x, hx⟩ : ∃ x, f j = x := ⟨_, rfl⟩
        have bx := HV.out j
        rw [hx] at cl bx
        obtain ⟨x0, x1⟩ := bx
        have hst := add_row (x := x) HR.out HF.out
        rw [hs] at hst
        have HST := hid hst
        have HX : Hid (kk x = if k = 0 then kn n else kk (f (k - 1))) := hid (by rw [if_neg hk0, hj, Nat.add_sub_cancel, hx])
        clear hs hs2 hst hk0 hrl hx
        have j0 : (0 : Int) ≤ (j : Int) := by omega
        have j1 : (j : Int) < (n : Int) := by omega
        go_wp2_with fail
        refine wp_region_still_tail 11 Tryd.mixedS (by kernel_rfl) ?_
        simp only [List.take_succ_cons, List.take_zero, List.drop_succ_cons, List.drop_zero]
        iterate 7 still_step
        still_call (radd_any s x _ (by omega) (by omega) (by omega) (by omega))
        iterate 3 still_step
        refine wpStill_nil ?_
        go_wp2_with fail
        refine (rmix_any b _ _ (by exact HST.out.1) (by exact HST.out.2)).mono ?_
        rintro e w1 ⟨rfl, ht1, hr1, hf1⟩
        have HT1 : Hid (Turned b w w1) := hid ((HTU.out.setCell 0 (.int .u64 (addQ s x))).trans ⟨ht1.os, ht1.tape, ht1.output, ht1.size, ht1.block⟩)
        have HR1 : Hid (Row w1 b 0 3 (numsK (stK g n f (k + 1)))) := hid (by rw [← stK_step, ← HX.out]; exact hr1)
        have HF1 := hid hf1
        clear ht1 hr1 hf1
        go_wp2_with fail
        go_roundg (n + 1 - (k + 1))
        case measure => go_light; omega
        case rel => exact ⟨k + 1, _, by omega, rfl, rfl, hid (by have := HT.out; omega), HT1, HR1, HF1⟩
    · have e : k = n + 1 := by omega
      subst e
      have ht : t = (n : Int) := by have := HT.out; omega
      subst ht
      go_wp2_with fail
      go_end0
      exact ⟨rfl, HTU.out, HR.out, HF.out⟩

end Go.Proofs.YtmjpcmeinlkfbaaDoor

/-
  Contracts of tallyref's NewSponge and Pair, each for every input: they answer what the functions of the text Spong tell, and write nothing that was there.
-/
namespace Go.Proofs.YtmjpcmeinlkfbaaDoor
open Go.RowKit
set_option linter.unusedVariables false
attribute [local go_sem ↓] Go.wp_at_zero Go.wp_at_succ

theorem set3_new (word : Int) (j : Nat) : set3 0 1 (nrm word) j = numsK (newK word) j := by
  unfold set3 numsK newK
  by_cases h0 : j = 0
  · rw [if_pos h0, if_pos h0]; rfl
  · rw [if_neg h0, if_neg h0]
    by_cases h1 : j = 1
    · rw [if_pos h1, if_pos h1]; rfl
    · rw [if_neg h1, if_neg h1]; exact nrm_ofK word

set_option maxHeartbeats 1000000 in
theorem rnew_any (word : Int) (w : World) (h0 : 0 ≤ word) (h1 : word ≤ 18446744073709551615) :
    Calls Tryd.prog 80 #[.int .u64 word] w fun e w' => e = .returned (.pointer (some ⟨w.heap.size, 0, none⟩)) ∧ Below w.heap.size w w' ∧ w.heap.size < w'.heap.size ∧ Row w' w.heap.size 0 3 (numsK (mixed (newK word))) ∧ Free w' w.heap.size 0 3 := by
  obtain ⟨z, hz⟩ : ∃ z, nrm word = z := ⟨_, rfl⟩
  have hN := rnorm_any word w h0 h1
  rw [hz] at hN
  have HN := hid hN
  obtain ⟨hr, hf⟩ := row_new3 w 0 1 z 142
  have hM := rmix_any w.heap.size (newK word) _ (hr.congr fun j _ => by rw [← hz]; exact set3_new word j) hf
  have HM := hid hM
  have hlt := hr.lt (by omega)
  have HB : Hid (Below w.heap.size w (w.alloc (.cells #[.int .u64 0, .int .u64 1, .int .u64 z] 142))) := hid ((Below.refl _ w).alloc (Nat.le_refl _) _)
  have HLT := hid hlt
  clear hr hf hM hlt hN hz
  go_enter Tryd.func80, Tryd.ntmps80
  go_wp2_with (first
    | (go_at_call 52; refine (HN.out).mono ?_; rintro e w' ⟨rfl, hw⟩; obtain rfl := hw.symm)
    | (go_at_call 98; refine (HM.out).mono ?_; rintro e w1 ⟨rfl, ht, hr, hf⟩; have HT := hid ht; have HR := hid hr; have HF := hid hf; clear ht hr hf))
  go_ret
  exact ⟨rfl, HB.out.trans (HT.out.below (Nat.le_refl _) HB.out.size), Nat.lt_of_lt_of_le HLT.out HT.out.size, HR.out, HF.out⟩


end Go.Proofs.YtmjpcmeinlkfbaaDoor

/-
  Contracts of tallyref's Root, for every table, each for every input; they write nothing that was there.
-/
namespace Go.Proofs.YtmjpcmeinlkfbaaDoor
open Go.RowKit
set_option linter.unusedVariables false
attribute [local go_sem ↓] Go.wp_at_zero Go.wp_at_succ

theorem Nums_part {f : Nat → Int} (h : Nums f) (k : Nat) : Nums (fun j => f (k + j)) := fun j => h _
theorem Row.half {w : World} {b off h : Nat} {f : Nat → Int} (r : Row w b off (2 * h) f) : Row w b off h f ∧ Row w b (off + h) h (fun j => f (h + j)) :=
  ⟨fun j hj => r j (by omega), fun j hj => by have := r (h + j) (by omega); rw [← Nat.add_assoc] at this; exact this⟩

end Go.Proofs.YtmjpcmeinlkfbaaDoor

/-
  Contracts of tallyref's Path, for every table and place; it makes new lists and writes nothing that was there.
-/
namespace Go.Proofs.YtmjpcmeinlkfbaaDoor
open Go.RowKit
set_option linter.unusedVariables false
attribute [local go_sem ↓] Go.wp_at_zero Go.wp_at_succ

theorem news_one (w : World) (x : Int) (t : TypeId) : ∀ j u, [Value.int .u64 x][j]? = some u → (w.alloc (.cells #[.int .u64 x] t)).cell? ((⟨w.heap.size, 0, none⟩ : Addr).add j) = some u := by
  intro j u hj
  match j, hj with
  | 0, hj => simp at hj; subst hj; simp [Addr.add]
theorem one_cell (x : Int) : ∀ u ∈ [Value.int .u64 x], u.oneCell' = true := by intro u hu; simp at hu; subst hu; rfl
/-- One number more behind a list of the call's own. -/
theorem own_snoc {w w1 w2 : World} {v : Value} {n g c : Nat} {f F : Nat → Int} {x : Int} {t : TypeId} (hb : Below w.heap.size w w1) (ho : Own w1 w.heap.size v n f)
    (hown : w2.ownsRow w.heap.size 45 1 (.slice (some ⟨g, 0, none⟩) (n + 1) c) (n + 1) (cellsOf n f ++ [.int .u64 x])) (hg : (w1.alloc (.cells #[.int .u64 x] t)).grownBy w2 v.ownBlock)
    (hF : ∀ j, j < n → f j = F j) (hx : x = F n) : Own w2 w.heap.size (.slice (some ⟨g, 0, none⟩) (n + 1) c) (n + 1) F ∧ Below w.heap.size w w2 := by
  refine ⟨?_, (hb.alloc hb.size _).grown hg (by have := hb.size; simp; omega) (by intro t ht; exact (World.ownsRow.lt ho t ht).1)⟩
  rw [cellsOf_snoc] at hown
  exact Own.congr hown fun j hj => by
    unfold catF
    by_cases e : j < n
    · rw [if_pos e]; exact hF j e
    · rw [if_neg e, show j = n from by omega]; exact hx

end Go.Proofs.YtmjpcmeinlkfbaaDoor

/-
  Memory of tallyref's Proof: lists of lists and lists of parts that the call itself appends to through boxes: what an append leaves, what stays; no program in it.
-/
namespace Go.Proofs.YtmjpcmeinlkfbaaDoor
open Go.RowKit
set_option linter.unusedVariables false

theorem nbel (w : World) (o : Obj) : Below w.heap.size w (w.alloc o) := (Below.refl _ w).alloc (Nat.le_refl _) o
theorem nkeep {W W' : World} (hb : Below W.heap.size W W') {a : Addr} {v : Value} (h : W.cell? a = some v) : W'.cell? a = some v := (hb.cell (World.block_lt_of_cell? W _ h)).trans h
/-- All blocks from base on are kept. -/
structure Kp (base : Nat) (W W' : World) : Prop where
  size : W.heap.size ≤ W'.heap.size
  block : ∀ b, base ≤ b → b < W.heap.size → W'.heap[b]? = W.heap[b]?
theorem Kp.of {base : Nat} {W W' : World} (h : Below W.heap.size W W') : Kp base W W' := ⟨h.size, fun b _ hb => h.block b hb⟩
theorem Kp.set (base : Nat) (W : World) {X j : Nat} (u : Value) (hX : X < base) : Kp base W (W.setCell ⟨X, j, none⟩ u) := ⟨by rw [World.size_setCell]; exact Nat.le_refl _, fun b hb _ => Below.heap_setCell _ _ _ _ (by show b ≠ X; omega)⟩
theorem Kp.trans {base : Nat} {W W' W'' : World} (h : Kp base W W') (g : Kp base W' W'') : Kp base W W'' := ⟨Nat.le_trans h.size g.size, fun b h1 h2 => (g.block b h1 (Nat.lt_of_lt_of_le h2 h.size)).trans (h.block b h1 h2)⟩
theorem Kp.mono {base base' : Nat} {W W' : World} (h : Kp base W W') (hb : base ≤ base') : Kp base' W W' := ⟨h.size, fun b h1 h2 => h.block b (by omega) h2⟩
theorem Kp.owns {base : Nat} {W W' : World} (h : Kp base W W') {t : TypeId} {s n : Nat} {v : Value} {l : List Value} (ho : W.ownsRow base t s v n l) : W'.ownsRow base t s v n l := by
  refine ⟨ho.1, ?_⟩
  rcases ho.2 with h2 | ⟨g, cap, cur, hv, hg, hh, r⟩
  · exact .inl h2
  · have hlt : g < W.heap.size := (Array.getElem?_eq_some_iff.1 hh).1
    exact .inr ⟨g, cap, cur, hv, hg, (h.block g hg hlt).trans hh, r⟩
theorem Kp.prow {base : Nat} {W W' : World} (h : Kp base W W') {ao : Option Addr} {n : Nat} {f : Nat → Int} (hr : PRow W ao n f) (hlo : ∀ a, ao = some a → base ≤ a.block) : PRow W' ao n f := fun h0 => by
  obtain ⟨b, off, e, hr2⟩ := hr h0
  exact ⟨b, off, e, fun j hj => (World.cell?_of_block (h.block b (hlo _ e) (World.block_lt_of_cell? W _ (hr2 j hj)))).trans (hr2 j hj)⟩
/-- A list of lists of the call's own, all from base on. -/
structure RndS (W : World) (base : Nat) (v : Value) (n : Nat) (A : Nat → Option Addr) (L C : Nat → Nat) (F : Nat → Nat → Int) : Prop where
  ov : OwnV W base v n A L C F
  lo : ∀ i, i < n → ∀ a, A i = some a → base ≤ a.block
theorem RndS.keep {base : Nat} {W W' : World} {v : Value} {n : Nat} {A : Nat → Option Addr} {L C : Nat → Nat} {F : Nat → Nat → Int} (h : RndS W base v n A L C F) (k : Kp base W W') : RndS W' base v n A L C F :=
  ⟨⟨k.owns h.ov.own, h.ov.apart, fun i hi a e => Nat.lt_of_lt_of_le (h.ov.lt i hi a e) k.size, fun i hi => k.prow (h.ov.row i hi) (h.lo i hi)⟩, h.lo⟩
theorem RndS.next {W W' : World} {base : Nat} {v : Value} {n : Nat} {A : Nat → Option Addr} {L C : Nat → Nat} {F : Nat → Nat → Int} {g cap l d bu : Nat} {f : Nat → Int} (h : RndS W base v n A L C F)
    (ho : W'.ownsRow base 25 1 (.slice (some ⟨g, 0, none⟩) (n + 1) cap) (n + 1) (slv n A L C ++ [.slice (some ⟨bu, 0, none⟩) l d])) (hg : W.grownBy W' v.ownBlock) (hat : v.ownBlock = some g ∨ g = W.heap.size)
    (hb : bu < W.heap.size) (hlo : base ≤ bu) (hne : v.ownBlock ≠ some bu) (hr : Row W bu 0 l f) : RndS W' base (.slice (some ⟨g, 0, none⟩) (n + 1) cap) (n + 1) (putO A n (some ⟨bu, 0, none⟩)) (putA L n l) (putA C n d) (putF F n f) :=
  ⟨h.ov.next ho hg hat (fun a e => by cases e; exact hb) (fun a e => by cases e; exact hne) (PRow.of hr), fun i hi a e => by
    unfold putO at e
    by_cases e2 : i = n
    · rw [if_pos e2] at e; cases e; exact hlo
    · rw [if_neg e2] at e; exact h.lo i (by omega) a e⟩

/-- Two cells a part. -/
def pcV (a b : Nat → Value) (j : Nat) : Value := if j % 2 = 0 then a (j / 2) else b (j / 2)
def pcsV (a b : Nat → Value) (n : Nat) : List Value := (List.range (n * 2)).map (pcV a b)
def putV (a : Nat → Value) (k : Nat) (x : Value) (i : Nat) : Value := if i = k then x else a i
theorem pcsV_len (a b : Nat → Value) (n : Nat) : (pcsV a b n).length = n * 2 := by simp [pcsV]
theorem pcsV_at (a b : Nat → Value) (n j : Nat) (h : j < n * 2) : (pcsV a b n)[j]? = some (pcV a b j) := by simp [pcsV, h]
theorem pcsV_congr {a b a' b' : Nat → Value} {n : Nat} (ha : ∀ j, j < n → a j = a' j) (hb : ∀ j, j < n → b j = b' j) : pcsV a b n = pcsV a' b' n := by
  unfold pcsV
  refine List.map_congr_left fun j hj => ?_
  have hj := List.mem_range.1 hj
  unfold pcV
  rw [ha (j / 2) (by omega), hb (j / 2) (by omega)]
theorem pcsV_snoc (a b : Nat → Value) (n : Nat) : pcsV a b n ++ [a n, b n] = pcsV a b (n + 1) := by
  unfold pcsV
  rw [show (n + 1) * 2 = n * 2 + 1 + 1 from by omega, List.range_succ, List.range_succ, List.map_append, List.map_append, List.append_assoc]
  congr 1
  show [a n, b n] = [pcV a b (n * 2)] ++ [pcV a b (n * 2 + 1)]
  unfold pcV
  rw [if_pos (by omega), if_neg (by omega), show n * 2 / 2 = n from by omega, show (n * 2 + 1) / 2 = n from by omega]
  rfl
def raV (m : PM) (p : PQ) (j : Nat) : Value := .slice (m.ra j) (p.rn j) (m.rc j)
def laV (m : PM) (p : PQ) (j : Nat) : Value := .slice (m.la j) (p.ln j) (m.lc j)
/-- Part j lies there. -/
def PartR (W : World) (p : PQ) (m : PM) (j : Nat) : Prop := LRow W (m.ra j) (p.rn j) (m.A j) (p.rl j) (m.C j) (p.R j) ∧ PRow W (m.la j) (p.ln j) (p.L j)
/-- In blocks of S. -/
def PartA (S : Nat → Prop) (p : PQ) (m : PM) (j : Nat) : Prop := (∀ a, m.ra j = some a → S a.block) ∧ (∀ a, m.la j = some a → S a.block) ∧ ∀ i, i < p.rn j → ∀ a, m.A j i = some a → S a.block
theorem PartA.mono {S S' : Nat → Prop} {p : PQ} {m : PM} {j : Nat} (h : PartA S p m j) (hs : ∀ b, S b → S' b) : PartA S' p m j := ⟨fun a e => hs _ (h.1 a e), fun a e => hs _ (h.2.1 a e), fun i hi a e => hs _ (h.2.2 i hi a e)⟩
theorem PartR.keep {W W' : World} {S : Nat → Prop} {p : PQ} {m : PM} {j : Nat} (h : PartR W p m j) (ha : PartA S p m j) (hk : ∀ b, S b → W'.heap[b]? = W.heap[b]?) : PartR W' p m j := by
  have pk : ∀ (ao : Option Addr) (n : Nat) (f : Nat → Int), (∀ a, ao = some a → S a.block) → PRow W ao n f → PRow W' ao n f := fun ao n f hs hr h0 => by
    obtain ⟨b, off, e, hr2⟩ := hr h0
    exact ⟨b, off, e, fun j hj => (World.cell?_of_block (hk b (hs _ e))).trans (hr2 j hj)⟩
  refine ⟨fun h0 => ?_, pk _ _ _ ha.2.1 h.2⟩
  obtain ⟨b, off, e, hr⟩ := h.1 h0
  exact ⟨b, off, e, fun i hi => ⟨(World.cell?_of_block (hk b (ha.1 _ e))).trans (hr i hi).1, pk _ _ _ (ha.2.2 i hi) (hr i hi).2⟩⟩
/-- A list of parts of the call's own, all from base on. -/
structure PartsS (W : World) (base : Nat) (v : Value) (t : Nat) (p : PQ) (m : PM) : Prop where
  own : W.ownsRow base 79 2 v t (pcsV (raV m p) (laV m p) t)
  part : ∀ j, j < t → PartR W p m j
  far : ∀ j, j < t → PartA (fun b => base ≤ b ∧ b < W.heap.size ∧ v.ownBlock ≠ some b) p m j
theorem PartsS.nil (W : World) (base : Nat) (p : PQ) (m : PM) : PartsS W base (.slice none 0 0) 0 p m := ⟨World.ownsRow_nil W base 79 2, fun j hj => absurd hj (by omega), fun j hj => absurd hj (by omega)⟩
theorem PartsS.keep {W W' : World} {base : Nat} {v : Value} {t : Nat} {p : PQ} {m : PM} (h : PartsS W base v t p m) (k : Kp base W W') : PartsS W' base v t p m :=
  ⟨k.owns h.own, fun j hj => (h.part j hj).keep (h.far j hj) (fun b hb => k.block b hb.1 hb.2.1), fun j hj => (h.far j hj).mono fun b hb => ⟨hb.1, Nat.lt_of_lt_of_le hb.2.1 k.size, hb.2.2⟩⟩
def PM.put (m : PM) (t : Nat) (ra la : Option Addr) (rc lc : Nat) (A : Nat → Option Addr) (C : Nat → Nat) : PM :=
  ⟨fun j => if j = t then ra else m.ra j, fun j => if j = t then la else m.la j, fun j => if j = t then rc else m.rc j, fun j => if j = t then lc else m.lc j, fun j => if j = t then A else m.A j, fun j => if j = t then C else m.C j⟩
theorem PM.put_at (m : PM) (t : Nat) (ra la : Option Addr) (rc lc : Nat) (A : Nat → Option Addr) (C : Nat → Nat) : (m.put t ra la rc lc A C).ra t = ra ∧ (m.put t ra la rc lc A C).la t = la ∧ (m.put t ra la rc lc A C).rc t = rc ∧ (m.put t ra la rc lc A C).lc t = lc ∧ (m.put t ra la rc lc A C).A t = A ∧ (m.put t ra la rc lc A C).C t = C :=
  ⟨if_pos rfl, if_pos rfl, if_pos rfl, if_pos rfl, if_pos rfl, if_pos rfl⟩
theorem PM.put_off (m : PM) {t j : Nat} (h : j ≠ t) (ra la : Option Addr) (rc lc : Nat) (A : Nat → Option Addr) (C : Nat → Nat) : (m.put t ra la rc lc A C).ra j = m.ra j ∧ (m.put t ra la rc lc A C).la j = m.la j ∧ (m.put t ra la rc lc A C).rc j = m.rc j ∧ (m.put t ra la rc lc A C).lc j = m.lc j ∧ (m.put t ra la rc lc A C).A j = m.A j ∧ (m.put t ra la rc lc A C).C j = m.C j :=
  ⟨if_neg h, if_neg h, if_neg h, if_neg h, if_neg h, if_neg h⟩
/-- One part more: what append left. -/
theorem PartsS.next {W W' : World} {base : Nat} {v : Value} {t : Nat} {p : PQ} {m : PM} {g cap rc lc : Nat} {ra la : Option Addr} {A : Nat → Option Addr} {C : Nat → Nat} (h : PartsS W base v t p m)
    (ho : W'.ownsRow base 79 2 (.slice (some ⟨g, 0, none⟩) (t + 1) cap) (t + 1) (pcsV (raV m p) (laV m p) t ++ [.slice ra (p.rn t) rc, .slice la (p.ln t) lc])) (hg : W.grownBy W' v.ownBlock) (hat : v.ownBlock = some g ∨ g = W.heap.size)
    (hr : PartR W p (m.put t ra la rc lc A C) t) (hf : PartA (fun b => base ≤ b ∧ b < W.heap.size ∧ v.ownBlock ≠ some b) p (m.put t ra la rc lc A C) t) :
    PartsS W' base (.slice (some ⟨g, 0, none⟩) (t + 1) cap) (t + 1) p (m.put t ra la rc lc A C) := by
  have far : ∀ k, k < W.heap.size → v.ownBlock ≠ some k → some g ≠ some k := fun k hk hk2 e => by
    rcases hat with e1 | e1
    · exact hk2 (e1.trans e)
    · have := Option.some.inj e; omega
  obtain ⟨q1, q2, q3, q4, q5, q6⟩ := m.put_at t ra la rc lc A C
  have old : ∀ j, j < t → PartR W p (m.put t ra la rc lc A C) j ∧ PartA (fun b => base ≤ b ∧ b < W.heap.size ∧ v.ownBlock ≠ some b) p (m.put t ra la rc lc A C) j := fun j hj => by
    obtain ⟨o1, o2, o3, o4, o5, o6⟩ := m.put_off (show j ≠ t by omega) ra la rc lc A C
    unfold PartR PartA
    rw [o1, o2, o5, o6]
    exact ⟨h.part j hj, h.far j hj⟩
  have all : ∀ j, j < t + 1 → PartR W p (m.put t ra la rc lc A C) j ∧ PartA (fun b => base ≤ b ∧ b < W.heap.size ∧ v.ownBlock ≠ some b) p (m.put t ra la rc lc A C) j := fun j hj => by
    by_cases e : j = t
    · subst e; exact ⟨hr, hf⟩
    · exact old j (by omega)
  refine ⟨?_, fun j hj => (all j hj).1.keep (all j hj).2 (fun b hb => hg.block b hb.2.1 (fun e => hb.2.2 e.symm)), fun j hj => (all j hj).2.mono fun b hb => ⟨hb.1, Nat.lt_of_lt_of_le hb.2.1 hg.size, far b hb.2.1 hb.2.2⟩⟩
  rw [← pcsV_snoc]
  have e1 : pcsV (raV (m.put t ra la rc lc A C) p) (laV (m.put t ra la rc lc A C) p) t = pcsV (raV m p) (laV m p) t := pcsV_congr (fun j hj => by
    obtain ⟨o1, o2, o3, o4, o5, o6⟩ := m.put_off (show j ≠ t by omega) ra la rc lc A C
    unfold raV; rw [o1, o3]) (fun j hj => by
    obtain ⟨o1, o2, o3, o4, o5, o6⟩ := m.put_off (show j ≠ t by omega) ra la rc lc A C
    unfold laV; rw [o2, o4])
  rw [e1]
  have e2 : raV (m.put t ra la rc lc A C) p t = .slice ra (p.rn t) rc := by unfold raV; rw [q1, q3]
  have e3 : laV (m.put t ra la rc lc A C) p t = .slice la (p.ln t) lc := by unfold laV; rw [q2, q4]
  rw [e2, e3]
  exact ho
/-- All parts: a proof. -/
theorem PartsS.all {W : World} {base : Nat} {v : Value} {p : PQ} {m : PM} (h : PartsS W base v p.n p m) : ∃ ao cap, v = .slice ao p.n cap ∧ PfRow W ao p m := by
  rcases h.own.2 with ⟨rfl, h0⟩ | ⟨g, cap, cur, rfl, _⟩
  · exact ⟨none, 0, by rw [h0], fun h1 => absurd h1 (by omega)⟩
  · refine ⟨some ⟨g, 0, none⟩, cap, rfl, fun _ => ⟨g, 0, rfl, fun j hj => ?_⟩⟩
    have c0 := h.own.cellAt (j * 2) (by omega)
    have c1 := h.own.cellAt (j * 2 + 1) (by omega)
    rw [pcsV_at _ _ _ _ (by omega), pcV, if_pos (by omega), show j * 2 / 2 = j from by omega] at c0
    rw [pcsV_at _ _ _ _ (by omega), pcV, if_neg (by omega), show (j * 2 + 1) / 2 = j from by omega] at c1
    rw [show 0 + 2 * j = j * 2 from by omega]
    exact ⟨c0, c1, (h.part j hj).1, (h.part j hj).2⟩

end Go.Proofs.YtmjpcmeinlkfbaaDoor

/-
  Contracts of the document's own answers for tables, tallyref's Eval (the sum over all corners) and bits, each for every input; they make new rows and write nothing that was there.
-/
namespace Go.Proofs.YtmjpcmeinlkfbaaDoor
open Go.RowKit
set_option linter.unusedVariables false
attribute [local go_sem ↓] Go.wp_at_zero Go.wp_at_succ

theorem req_p (ao : Option Addr) (n cap : Nat) (g : Nat → Int) (at0 : Nat) (w : World) (hn : n ≤ 1000) (hp : PRow w ao n g) (hv : Nums g) (hat : at0 ≤ 100000) :
    Calls Tryd.prog 77 #[.slice ao n cap, .int .i64 (at0 : Int)] w fun e w' => e = .returned (.int .u64 (ofK (eqK (fun j => kk (g j)) n at0))) ∧ w' = w := by
  by_cases h0 : 0 < n
  · obtain ⟨b, off, rfl, hr⟩ := hp h0
    exact req_any b off n cap g at0 w hn hr hv hat
  · obtain rfl : n = 0 := by omega
    exact req_zero ao cap at0 w hat

theorem ev_step (f : Nat → Int) (g : Nat → K) (n k : Nat) (z a : Int) (hz : z = ofK (sK (fun b => kk (f b) * eqK g n b) k)) (ha : f k = a) : addQ z (mulQ a (ofK (eqK g n k))) = ofK (sK (fun b => kk (f b) * eqK g n b) (k + 1)) := by
  rw [addQ_ofK, hz, kk_ofK, kk_mulQ, kk_ofK, sK, ha]
set_option maxHeartbeats 2000000 in
set_option maxRecDepth 100000 in
theorem reval_any (b off n N cap cap2 : Nat) (ao : Option Addr) (f g : Nat → Int) (w : World) (hn : n ≤ 1000) (hN : N = 2 ^ n) (hN2 : N ≤ 1000) (hr : Row w b off N f) (hv : Nums f) (hp : PRow w ao n g) (hg : Nums g) :
    Calls Tryd.prog 41 #[.slice (some ⟨b, off, none⟩) N cap, .slice ao n cap2] w fun e w' => e = .returned (.int .u64 (ofK (evS (fun j => kk (f j)) (fun j => kk (g j)) n))) ∧ Below w.heap.size w w' := by
  have HE := hid (fun k (hk : k ≤ 1000) w' (h : PRow w' ao n g) => req_p ao n cap2 g k w' hn h hg (by omega))
  have HR := hid hr
  have HV := hid hv
  have HP := hid hp
  have HN := hid hN
  clear hr hv hp hg hN
  go_enter Tryd.func41, Tryd.ntmps41
  go_wp2_with fail
  go_loopg [5, 6] N (fun q o i wr => ∃ (k : Nat) (z : Int), k ≤ N ∧ q = N - k ∧ o = .int .u64 z ∧ i = .int .i64 (k : Int) ∧ 0 ≤ z ∧ z ≤ 2305843009213693950 ∧ Hid (z = ofK (sK (fun b => kk (f b) * eqK (fun j => kk (g j)) n b) k)) ∧ Hid (Row wr b off N f) ∧ Hid (PRow wr ao n g) ∧ Hid (Below w.heap.size w wr))
  case atStart => exact ⟨0, 0, by omega, rfl, rfl, rfl, by omega, by omega, hid rfl, HR, HP, hid (Below.refl _ _)⟩
  case round =>
    clear HR HP
    obtain ⟨k, z, hk, rfl, rfl, rfl, z0, z1, HZ, HR, HP, HB⟩ := hrel
    by_cases hlt : k < N
    · have c1 := HR.out k hlt
      obtain ⟨a, ha⟩ : ∃ a, f k = a := ⟨_, rfl⟩
      have ba := HV.out k
      rw [ha] at c1 ba
      obtain ⟨a0, a1⟩ := ba
      have HA := hid ha
      clear ha
      have he := HE.out k (by omega)
      have hst := fun z h => ev_step f (fun j => kk (g j)) n k z a h HA.out
      obtain ⟨e0, e1⟩ := ofK_rng (eqK (fun j => kk (g j)) n k)
      generalize ofK (eqK (fun j => kk (g j)) n k) = y at he hst e0 e1
      have HE2 := hid he
      have HST := hid (hst z HZ.out)
      clear he hst
      obtain ⟨m0, m1⟩ := mulQ_rng a y
      have k0 : (0 : Int) ≤ (k : Int) := by omega
      have k1 : (k : Int) < (N : Int) := by omega
      go_wp2_with fail
      go_region_with (first | (go_at_call 77; refine (HE2.out _ (by exact HP.out)).mono ?_; rintro e w' ⟨rfl, hw⟩; obtain rfl := hw.symm) | (go_at_call 53; refine (rmul_any _ _ _ (by omega) (by omega) (by omega) (by omega)).mono ?_; rintro e w' ⟨rfl, hw⟩; obtain rfl := hw.symm) | (go_at_call 39; refine (radd_any _ _ _ (by omega) (by omega) (by omega) (by omega)).mono ?_; rintro e w' ⟨rfl, hw⟩; obtain rfl := hw.symm))
      all_goals (go_wp2_with fail)
      all_goals (go_roundg (N - (k + 1)))
      all_goals first | (go_light; omega) | (exact ⟨k + 1, _, by omega, rfl, rfl, by go_num, (addQ_rng _ _).1, (addQ_rng _ _).2, HST, hid HR.out.drew, hid HP.out.drew, hid HB.out.drew⟩)
    · have e : k = N := by omega
      subst e
      go_wp2_with fail
      go_ret
      exact ⟨ret_u64 (by rw [HZ.out, HN.out]; rfl), HB.out⟩

theorem Nums_bitF (b n : Nat) : Nums (bitF b n) := fun j => by unfold bitF; omega

theorem cast_shift (b q : Nat) : ((b / 2 ^ q : Nat) : Int) = (b : Int) / 2 ^ q := by simp
set_option maxHeartbeats 2000000 in
set_option maxRecDepth 100000 in
theorem rbits_any (at0 n : Nat) (w : World) (hn : n ≤ 60) (hat : at0 ≤ 100000) :
    Calls Tryd.prog 38 #[.int .i64 (at0 : Int), .int .i64 (n : Int)] w fun e w' => ∃ v, e = .returned v ∧ Own w' w.heap.size v n (bitF at0 n) ∧ Below w.heap.size w w' ∧ (n = 0 → v = .slice none 0 0) := by
  obtain ⟨i0, hi, hz0, hz1, hz2⟩ := info_parts Tryd.infoO
  have HI := hid (And.intro hi (And.intro hz0 (And.intro hz1 hz2)))
  clear hi hz0 hz1 hz2
  go_enter Tryd.func38, Tryd.ntmps38
  go_wp2_with fail
  go_loopg [5, 6] n (fun m o i wr => ∃ (k : Nat) (t : Int) (v : Value), k ≤ n ∧ m = n - k ∧ o = v ∧ i = .int .i64 t ∧ Hid (t = (n : Int) - 1 - k) ∧ Hid (Own wr w.heap.size v k (bitF at0 n)) ∧ Hid (Below w.heap.size w wr) ∧ Hid (k = 0 → v = .slice none 0 0))
  case atStart => exact ⟨0, _, _, by omega, rfl, rfl, rfl, hid (by omega), hid (Own.nil _ _ _), hid (Below.refl _ _), hid (fun _ => rfl)⟩
  case round =>
    obtain ⟨k, t, v, hk, rfl, rfl, rfl, HT, HO, HB, HK0⟩ := hrel
    by_cases hlt : k < n
    · obtain ⟨q, hq⟩ : ∃ q : Nat, q + k + 1 = n := ⟨n - 1 - k, by omega⟩
      have ht : t = (q : Int) := by have := HT.out; omega
      subst ht
      have hqn : q < n := by omega
      have q0 : (0 : Int) ≤ (q : Int) := by omega
      obtain ⟨s, hs⟩ : ∃ s : Nat, at0 / 2 ^ q = s := ⟨_, rfl⟩
      have hs2 : (at0 : Int) / 2 ^ q = (s : Int) := by rw [← hs]; simp
      have hsl : s ≤ 100000 := by rw [← hs]; exact Nat.le_trans (Nat.div_le_self _ _) hat
      have hy : bitF at0 n k = ((s % 2 : Nat) : Int) := by unfold bitF; rw [show n - 1 - k = q from by omega, hs]
      have HY := hid hy
      have s0 : (0 : Int) ≤ (s : Int) := by omega
      have hwu : IntKind.u64.wrap (((at0 : Int) / 2 ^ q).tmod 2) = (s : Int) % 2 := by
        rw [hs2, IntKind.wrap_u64, Int.tmod_eq_emod_of_nonneg s0]
        omega
      have hmin : min q 64 = q := Nat.min_eq_left (by omega)
      clear hq hy hs hs2
      go_wp2_with (at_builtin; refine wpList_append_lies _ rfl _ _ 25 rfl w.heap.size 45 i0 (.int .u64 0) 1 8 Tryd.underlying25 HI.out.1 HI.out.2.1 HI.out.2.2.1 HI.out.2.2.2 rfl (by decide) _ _ _ rfl (World.ownsRow.alloc HO.out _) ⟨wr.heap.size, 0, none⟩ 1 1 [.int .u64 ((s : Int) % 2)] rfl rfl ?qc2 ?qc3 ?qc4 ?qc5 ?qc6 ?qc7 (wr.heap.size + 1) ?qc8 ?_)
      case qc2 =>
        intro j u hj
        match j, hj with
        | 0, hj => simp at hj; subst hj; simp [Addr.add]
      case qc3 => intro u hu; simp at hu; subst hu; rfl
      case qc4 => omega
      case qc5 => unfold maxLen; omega
      case qc6 => omega
      case qc7 => have := HB.out.size; simp; omega
      case qc8 => simp
      intro g2 c2 w6 hown2 hgrow2 hat2 hlt2
      have HO6 : Hid (Own w6 w.heap.size (.slice (some ⟨g2, 0, none⟩) (k + 1) c2) (k + 1) (bitF at0 n)) := hid (by
        rw [cellsOf_snoc] at hown2
        exact Own.congr hown2 fun j hj => by
          unfold catF
          by_cases e : j < k
          · rw [if_pos e]
          · rw [if_neg e, show j = k from by omega, HY.out]; simp)
      have HB6 : Hid (Below w.heap.size w w6) := hid ((HB.out.alloc HB.out.size _).grown hgrow2 (by have := HB.out.size; simp; omega) (by intro t ht; exact (World.ownsRow.lt HO.out t ht).1))
      clear hown2 hgrow2 hat2 hlt2
      go_wp2_with fail
      go_roundg (n - (k + 1))
      case measure => go_light; omega
      case rel => exact ⟨k + 1, _, _, by omega, rfl, rfl, rfl, hid (by have := HT.out; omega), HO6, HB6, hid (fun h => by omega)⟩
    · have e : k = n := by omega
      subst e
      have ht : t = -1 := by have := HT.out; omega
      subst ht
      go_wp2_with fail
      go_ret
      exact ⟨_, rfl, HO.out, HB.out, HK0.out⟩

end Go.Proofs.YtmjpcmeinlkfbaaDoor

/-
  A contract of tallyref's joined; it makes a new row and writes nothing that was there.
-/
namespace Go.Proofs.YtmjpcmeinlkfbaaDoor
open Go.RowKit
set_option linter.unusedVariables false
attribute [local go_sem ↓] Go.wp_at_zero Go.wp_at_succ

def catN (nv : Nat → Nat) : Nat → Nat
  | 0 => 0
  | k + 1 => catN nv k + nv k
def catFs (nv : Nat → Nat) (fv : Nat → Nat → Int) : Nat → Nat → Int
  | 0 => fun _ => 0
  | k + 1 => catF (catN nv k) (catFs nv fv k) (fv k)
theorem catN_le (nv : Nat → Nat) (m k : Nat) (hk : k ≤ m) (h : ∀ k, k < m → nv k ≤ 1000) : catN nv k ≤ 1000 * k := by
  induction k with
  | zero => simp [catN]
  | succ k ih => rw [catN]; have := ih (by omega); have := h k (by omega); omega

set_option maxHeartbeats 2000000 in
set_option maxRecDepth 100000 in
theorem joined_any (B o m cap : Nat) (av : Nat → Option Addr) (nv cv : Nat → Nat) (fv : Nat → Nat → Int) (w : World) (hm : m ≤ 10) (hl : ∀ k, k < m → w.cell? ⟨B, o + k, none⟩ = some (.slice (av k) (nv k) (cv k))) (hB : B < w.heap.size)
    (hp : ∀ k, k < m → PRow w (av k) (nv k) (fv k)) (hn : ∀ k, k < m → nv k ≤ 1000) :
    Calls Tryd.prog 37 #[.slice (some ⟨B, o, none⟩) m cap] w fun e w' => ∃ v, e = .returned v ∧ Own w' w.heap.size v (catN nv m) (catFs nv fv m) ∧ Below w.heap.size w w' := by
  obtain ⟨i0, hi, hz0, hz1, hz2⟩ := info_parts Tryd.infoO
  have HI := hid (And.intro hi (And.intro hz0 (And.intro hz1 hz2)))
  have HL := hid hl
  have HP := hid hp
  have HN := hid hn
  clear hi hz0 hz1 hz2 hl hp hn
  go_enter Tryd.func37, Tryd.ntmps37
  go_wp2_with fail
  go_loopg [3, 4] m (fun q x i wr => ∃ (k : Nat) (v : Value), k ≤ m ∧ q = m - k ∧ x = v ∧ i = .int .i64 (k : Int) ∧ Hid (Own wr w.heap.size v (catN nv k) (catFs nv fv k)) ∧ Hid (Below w.heap.size w wr))
  case atStart => exact ⟨0, _, by omega, rfl, rfl, rfl, hid (Own.nil _ _ _), hid (Below.refl _ _)⟩
  case round =>
    obtain ⟨k, v, hk, rfl, rfl, rfl, HO, HB⟩ := hrel
    by_cases hlt : k < m
    · have c1 := (HB.out.cell hB).trans (HL.out k hlt)
      have k0 : (0 : Int) ≤ (k : Int) := by omega
      have k1 : (k : Int) < (m : Int) := by omega
      by_cases hz : nv k = 0
      · rw [hz] at c1
        go_wp2_with (at_builtin; refine wpList_append_empty _ rfl _ _ 25 rfl w.heap.size 45 i0 1 Tryd.underlying25 HI.out.1 _ _ _ rfl HO.out _ _ rfl ?_)
        go_roundg (m - (k + 1))
        case measure => go_light; omega
        case rel =>
          refine ⟨k + 1, _, by omega, rfl, rfl, by go_num, hid ?_, HB⟩
          have h := HO.out
          rw [catN, hz, Nat.add_zero]
          exact h.congr fun j hj => by rw [catFs, catF, if_pos hj]
      · obtain ⟨b2, off2, e1, hr⟩ := HP.out k hlt (by omega)
        rw [e1] at c1
        have hn1 := HN.out k hlt
        have hcn := catN_le nv m k hk HN.out
        have HR := hid (hr.kept HB.out (hr.lt (by omega)))
        clear hr e1
        obtain ⟨n1, hn2⟩ : ∃ n1, nv k = n1 := ⟨_, rfl⟩
        rw [hn2] at c1 hn1 hz HR
        have HN2 := hid hn2
        clear hn2
        go_wp2_with (at_builtin; refine wpList_append_lies _ rfl _ _ 25 rfl w.heap.size 45 i0 (.int .u64 0) 1 8 Tryd.underlying25 HI.out.1 HI.out.2.1 HI.out.2.2.1 HI.out.2.2.2 rfl (by decide) _ _ _ rfl HO.out ⟨b2, off2, none⟩ n1 (cv k) (cellsOf n1 (fv k)) rfl ?qc1 ?qc2 ?qc3 ?qc4 ?qc5 ?qc6 ?qc7 wr.heap.size ?qc8 ?_)
        case qc1 => rw [cellsOf_len]; omega
        case qc2 => exact row_cells HR.out
        case qc3 => exact cellsOf_one _ _
        case qc4 => omega
        case qc5 => unfold maxLen; omega
        case qc6 => omega
        case qc7 => exact HB.out.size
        case qc8 => rfl
        intro g2 c2 w6 hown2 hgrow2 hat2 hlt2
        have HO6 : Hid (Own w6 w.heap.size (.slice (some ⟨g2, 0, none⟩) (catN nv k + n1) c2) (catN nv k + n1) (catF (catN nv k) (catFs nv fv k) (fv k))) := hid (by
          rw [cellsOf_cat] at hown2
          exact hown2)
        have HB6 : Hid (Below w.heap.size w w6) := hid (HB.out.grown hgrow2 HB.out.size (by intro t ht; exact (World.ownsRow.lt HO.out t ht).1))
        clear hown2 hgrow2 hat2 hlt2
        go_wp2_with fail
        go_roundg (m - (k + 1))
        case measure => go_light; omega
        case rel => exact ⟨k + 1, _, by omega, rfl, rfl, by go_num, hid (by rw [catN, HN2.out]; exact HO6.out), HB6⟩
    · have e : k = m := by omega
      subst e
      go_wp2_with fail
      go_ret
      exact ⟨_, rfl, HO.out, HB.out⟩

theorem joined_two (B cap : Nat) (a0 a1 : Option Addr) (n0 c0 n1 c1 : Nat) (f0 f1 : Nat → Int) (w : World) (h0 : w.cell? ⟨B, 0, none⟩ = some (.slice a0 n0 c0)) (h1 : w.cell? ⟨B, 1, none⟩ = some (.slice a1 n1 c1))
    (p0 : PRow w a0 n0 f0) (p1 : PRow w a1 n1 f1) (l0 : n0 ≤ 1000) (l1 : n1 ≤ 1000) :
    Calls Tryd.prog 37 #[.slice (some ⟨B, 0, none⟩) 2 cap] w fun e w' => ∃ v, e = .returned v ∧ Own w' w.heap.size v (n0 + n1) (catF n0 f0 f1) ∧ Below w.heap.size w w' := by
  have h := joined_any B 0 2 cap (fun k => if k = 0 then a0 else a1) (fun k => if k = 0 then n0 else n1) (fun k => if k = 0 then c0 else c1) (fun k => if k = 0 then f0 else f1) w (by omega)
    (fun k hk => by
      match k, hk with
      | 0, _ => exact h0
      | 1, _ => exact h1)
    (World.block_lt_of_cell? w _ h0)
    (fun k hk => by
      match k, hk with
      | 0, _ => exact p0
      | 1, _ => exact p1)
    (fun k hk => by
      match k, hk with
      | 0, _ => exact l0
      | 1, _ => exact l1)
  refine h.mono ?_
  rintro e w' ⟨v, rfl, ho, hb⟩
  refine ⟨v, rfl, ?_, hb⟩
  have e1 : catN (fun k => if k = 0 then n0 else n1) 2 = n0 + n1 := by simp [catN]
  rw [e1] at ho
  refine ho.congr fun j hj => ?_
  simp only [catFs, catN, if_pos, Nat.zero_add, catF]
  by_cases hj2 : j < n0
  · rw [if_pos hj2, if_neg (by omega), if_pos hj2]; simp
  · rw [if_neg hj2, if_neg hj2]; simp

end Go.Proofs.YtmjpcmeinlkfbaaDoor

/-
  Plain, for tallyref's Proof: a round's value as the sum over all corners of what is left; and joined of three lists.
-/
namespace Go.Proofs.YtmjpcmeinlkfbaaDoor
open Go.RowKit
set_option linter.unusedVariables false

/-- A corner's point: the draws so far, the value, a corner of what is left. -/
def xyF (d : Nat → Int) (r v m b : Nat) : Nat → Int := catF r d (catF 1 (fun _ => (v : Int)) (bitF b m))
theorem kk_xyF (d : Nat → Int) (r v m b q : Nat) (hq : q < r + 1 + m) : kk (xyF d r v m b q) = cornK (updK (fun j => kk (d j)) r (kn v)) (r + 1) m b q := by
  unfold xyF catF cornK
  by_cases h : q < r
  · rw [if_pos h, if_neg (by omega)]
    unfold updK
    rw [if_neg (by omega)]
  · rw [if_neg h]
    by_cases h2 : q = r
    · subst h2
      rw [if_pos (by omega), if_neg (by omega)]
      unfold updK
      rw [if_pos rfl]; rfl
    · rw [if_neg (by omega), if_pos (by omega), kk_bitF, show q - r - 1 = q - (r + 1) from by omega]
theorem Nums_xyF {d : Nat → Int} (hd : Nums d) (r v m b : Nat) (hv : v ≤ 1000) : Nums (xyF d r v m b) := fun j => by
  unfold xyF catF
  by_cases h : j < r
  · rw [if_pos h]; exact hd j
  · rw [if_neg h]
    by_cases h2 : j - r < 1
    · rw [if_pos h2]
      show 0 ≤ (v : Int) ∧ (v : Int) ≤ 18446744073709551615
      omega
    · rw [if_neg h2]; exact Nums_bitF b m _
/-- What a corner adds. -/
def cornT (gs : List GQ) (lk k : Nat) (V z d : Nat → Int) (r v m b : Nat) : K := layF (gM gs) (gA gs) (gB gs) lk k (fun j => kk (V j)) (pK z) (fun q => kk (xyF d r v m b q))
theorem corn_step (gs : List GQ) (lk k : Nat) (V z d : Nat → Int) (r v m b : Nat) :
    wstQ gs lk k z (xyF d r v m b) (fun q => xyF d r v m b (k + q)) (ofK (evS (fun j => kk (V j)) (fun j => kk (xyF d r v m b j)) k)) (ofK (evS (fun j => kk (V j)) (fun j => kk (xyF d r v m b (k + j))) k)) = ofK (cornT gs lk k V z d r v m b) := by
  unfold wstQ cornT layF
  rw [kk_ofK, kk_ofK]
  rfl
theorem corn_next (f : Nat → K) (B : Nat) (x : Int) (hx : x = ofK (f B)) (z : Int) (hz : z = ofK (sK f B)) : addQ z x = ofK (sK f (B + 1)) := by
  rw [hx, hz, addQ_ofK, kk_ofK, kk_ofK]; rfl
theorem corn_sum (gs : List GQ) (lk k : Nat) (V z d : Nat → Int) (r v m : Nat) (hm : r + 1 + m = k + k) : ofK (sK (cornT gs lk k V z d r v m) (2 ^ m)) = rdQ gs lk k V z d r v := by
  unfold rdQ rndK
  rw [show k + k - r - 1 = m from by omega, cube_sum]
  congr 1
  refine sK_congr (2 ^ m) fun b hb => ?_
  unfold cornT
  exact layF_congr _ _ _ _ _ _ (fun _ _ => rfl) (fun q hq => kk_xyF d r v m b q (by omega))
/-- joined, of three lists. -/
theorem joined_three (B cap : Nat) (a0 a1 a2 : Option Addr) (n0 c0 n1 c1 n2 c2 : Nat) (f0 f1 f2 : Nat → Int) (w : World) (h0 : w.cell? ⟨B, 0, none⟩ = some (.slice a0 n0 c0)) (h1 : w.cell? ⟨B, 1, none⟩ = some (.slice a1 n1 c1)) (h2 : w.cell? ⟨B, 2, none⟩ = some (.slice a2 n2 c2))
    (p0 : PRow w a0 n0 f0) (p1 : PRow w a1 n1 f1) (p2 : PRow w a2 n2 f2) (l0 : n0 ≤ 1000) (l1 : n1 ≤ 1000) (l2 : n2 ≤ 1000) :
    Calls Tryd.prog 37 #[.slice (some ⟨B, 0, none⟩) 3 cap] w fun e w' => ∃ v, e = .returned v ∧ Own w' w.heap.size v (n0 + n1 + n2) (catF n0 f0 (catF n1 f1 f2)) ∧ Below w.heap.size w w' := by
  have h := joined_any B 0 3 cap (fun k => if k = 0 then a0 else if k = 1 then a1 else a2) (fun k => if k = 0 then n0 else if k = 1 then n1 else n2) (fun k => if k = 0 then c0 else if k = 1 then c1 else c2) (fun k => if k = 0 then f0 else if k = 1 then f1 else f2) w (by omega)
    (fun k hk => by
      obtain rfl | rfl | rfl : k = 0 ∨ k = 1 ∨ k = 2 := by omega
      · exact h0
      · exact h1
      · exact h2) (World.block_lt_of_cell? w _ h0)
    (fun k hk => by
      obtain rfl | rfl | rfl : k = 0 ∨ k = 1 ∨ k = 2 := by omega
      · exact p0
      · exact p1
      · exact p2)
    (fun k hk => by
      obtain rfl | rfl | rfl : k = 0 ∨ k = 1 ∨ k = 2 := by omega
      · exact l0
      · exact l1
      · exact l2)
  refine h.mono ?_
  rintro e w' ⟨v, he, ho, hb⟩
  refine ⟨v, he, ?_, hb⟩
  have e1 : catN (fun k => if k = 0 then n0 else if k = 1 then n1 else n2) 3 = n0 + n1 + n2 := by
    show 0 + n0 + n1 + n2 = _
    omega
  rw [e1] at ho
  refine ho.congr fun j hj => ?_
  show catF (0 + n0 + n1) (catF (0 + n0) (catF 0 (fun _ => 0) f0) f1) f2 j = _
  unfold catF
  by_cases h1 : j < n0
  · rw [if_pos (by omega), if_pos (by omega), if_neg (by omega), if_pos h1, Nat.sub_zero]
  · by_cases h2 : j < n0 + n1
    · rw [if_pos (by omega), if_neg (by omega), if_neg h1, if_pos (by omega), show j - (0 + n0) = j - n0 from by omega]
    · rw [if_neg (by omega), if_neg h1, if_neg (by omega), show j - (0 + n0 + n1) = j - n0 - n1 from by omega]

end Go.Proofs.YtmjpcmeinlkfbaaDoor

/-
  Contracts of tallyref's Below and Circuit, for every circuit; they make new blocks and write nothing that was there.
-/
namespace Go.Proofs.YtmjpcmeinlkfbaaDoor
open Go.RowKit
set_option linter.unusedVariables false
attribute [local go_sem ↓] Go.wp_at_zero Go.wp_at_succ

set_option maxHeartbeats 1000000 in
theorem rbelow_zero (g : Int) (ao : Option Addr) (n cap : Nat) (w : World) :
    Calls Tryd.prog 18 #[.agg #[.int .i64 g, .slice ao n cap], .int .i64 0] w fun e w' => e = .returned (.int .i64 g) ∧ Below w.heap.size w w' := by
  go_enter Tryd.func18, Tryd.ntmps18
  go_wp2_with fail
  go_ret
  exact ⟨rfl, (Below.refl _ w).alloc (Nat.le_refl _) _⟩
set_option maxHeartbeats 1000000 in
theorem rbelow_at (g : Int) (b off n cap i : Nat) (x : Int) (w : World) (hi : i < n) (hn : n ≤ 4) (hc : w.cell? ⟨b, off + 2 * i, none⟩ = some (.int .i64 x)) :
    Calls Tryd.prog 18 #[.agg #[.int .i64 g, .slice (some ⟨b, off, none⟩) n cap], .int .i64 ((i : Int) + 1)] w fun e w' => e = .returned (.int .i64 x) ∧ Below w.heap.size w w' := by
  have hb : b < w.heap.size := World.block_lt_of_cell? w _ hc
  have hc2 : ∀ o, (w.alloc o).cell? ⟨b, off + i * 2, none⟩ = some (.int .i64 x) := fun o => by rw [Nat.mul_comm i 2, World.cell?_alloc_old _ _ _ (Nat.ne_of_lt hb)]; exact hc
  have k0 : ¬ ((i : Int) + 1 = 0) := by omega
  have k1 : (((i : Int) + 1) == 0) = false := beq_eq_false_iff_ne.2 k0
  have k2 : (0 : Int) ≤ (i : Int) := by omega
  have k3 : (i : Int) < (n : Int) := by omega
  clear hc
  go_enter Tryd.func18, Tryd.ntmps18
  go_wp2_with fail
  go_ret
  exact ⟨rfl, (Below.refl _ w).alloc (Nat.le_refl _) _⟩

end Go.Proofs.YtmjpcmeinlkfbaaDoor

/-
  A contract of tallyref's Circuit, for every circuit; it makes new blocks and writes nothing that was there.
-/
namespace Go.Proofs.YtmjpcmeinlkfbaaDoor
open Go.RowKit
set_option linter.unusedVariables false
attribute [local go_sem ↓] Go.wp_at_zero Go.wp_at_succ

set_option maxHeartbeats 1000000 in
theorem rcirc_log (g : Int) (ao : Option Addr) (n cap : Nat) (w : World) (h : ¬ (0 ≤ g ∧ g ≤ 4)) :
    Calls Tryd.prog 7 #[.agg #[.int .i64 g, .slice ao n cap]] w fun e w' => e = .returned (.int .i64 1) ∧ Below w.heap.size w w' := by
  have hI : (decide ((0 : Int) ≤ g) && decide (g ≤ 4)) = false := by simp; omega
  have HI := hid (fun w => rin_any g 0 4 w)
  rw [hI] at HI
  clear hI h
  go_enter Tryd.func7, Tryd.ntmps7
  go_wp2_with (go_at_call 30; refine (HI.out _).mono ?_; rintro e w' ⟨rfl, hw⟩; obtain rfl := hw.symm)
  go_ret
  exact ⟨rfl, (Below.refl _ w).alloc (Nat.le_refl _) _⟩
set_option maxHeartbeats 1000000 in
theorem rcirc_none (g : Int) (ao : Option Addr) (cap : Nat) (w : World) (h0 : 0 ≤ g) (h4 : g ≤ 4) :
    Calls Tryd.prog 7 #[.agg #[.int .i64 g, .slice ao 0 cap]] w fun e w' => e = .returned (.int .i64 1) ∧ Below w.heap.size w w' := by
  have hI : (decide ((0 : Int) ≤ g) && decide (g ≤ 4)) = true := by simp; omega
  have HI := hid (fun w => rin_any g 0 4 w)
  rw [hI] at HI
  clear hI
  go_enter Tryd.func7, Tryd.ntmps7
  go_wp2_with (go_at_call 30; refine (HI.out _).mono ?_; rintro e w' ⟨rfl, hw⟩; obtain rfl := hw.symm)
  go_ret
  exact ⟨rfl, (Below.refl _ w).alloc (Nat.le_refl _) _⟩
set_option maxHeartbeats 1000000 in
theorem rcirc_large (g : Int) (ao : Option Addr) (n cap : Nat) (w : World) (h0 : 0 ≤ g) (h4 : g ≤ 4) (hn : 4 < n) :
    Calls Tryd.prog 7 #[.agg #[.int .i64 g, .slice ao n cap]] w fun e w' => e = .returned (.int .i64 2) ∧ Below w.heap.size w w' := by
  have hI : (decide ((0 : Int) ≤ g) && decide (g ≤ 4)) = true := by simp; omega
  have HI := hid (fun w => rin_any g 0 4 w)
  rw [hI] at HI
  have n1 : ((n : Int) == 0) = false := beq_eq_false_iff_ne.2 (by omega)
  have n2 : (4 : Int) < (n : Int) := by omega
  clear hI
  go_enter Tryd.func7, Tryd.ntmps7
  go_wp2_with (go_at_call 30; refine (HI.out _).mono ?_; rintro e w' ⟨rfl, hw⟩; obtain rfl := hw.symm)
  go_ret
  exact ⟨rfl, (Below.refl _ w).alloc (Nat.le_refl _) _⟩

theorem rbelow_any (c : CQ) (g : Int) (b off n cap i : Nat) (A : Nat → Option Addr) (C : Nat → Nat) (w : World) (hg : c.log = g) (hn : c.layers.length = n) (n4 : n ≤ 4) (hi : i ≤ n) (hr : CRow w (some ⟨b, off, none⟩) c.layers A C) :
    Calls Tryd.prog 18 #[.agg #[.int .i64 g, .slice (some ⟨b, off, none⟩) n cap], .int .i64 (i : Int)] w fun e w' => e = .returned (.int .i64 (belowQ c i)) ∧ Below w.heap.size w w' := by
  cases i with
  | zero => rw [show belowQ c 0 = g from hg]; exact rbelow_zero g _ n cap w
  | succ i =>
    have hlt : i < c.layers.length := by omega
    obtain ⟨l, hl⟩ : ∃ l, c.layers[i]? = some l := ⟨c.layers[i], by simp [hlt]⟩
    obtain ⟨b', off', e, hc⟩ := hr (by intro e; rw [e] at hlt; simp at hlt)
    cases e
    rw [show belowQ c (i + 1) = l.log from by rw [belowQ, hl]; rfl, show ((i + 1 : Nat) : Int) = (i : Int) + 1 from by omega]
    exact rbelow_at g b off n cap i l.log w (by omega) n4 (hc i l hl).1

set_option maxHeartbeats 1000000 in
set_option maxRecDepth 100000 in
theorem rcirc_main (c : CQ) (g : Int) (b off n cap : Nat) (A : Nat → Option Addr) (C : Nat → Nat) (w : World) (hg : c.log = g) (hn : c.layers.length = n) (h0 : 0 ≤ g) (h4 : g ≤ 4) (n1 : 1 ≤ n) (n4 : n ≤ 4) (hr : CRow w (some ⟨b, off, none⟩) c.layers A C) :
    Calls Tryd.prog 7 #[.agg #[.int .i64 g, .slice (some ⟨b, off, none⟩) n cap]] w fun e w' => ∃ x, e = .returned (.int .i64 x) ∧ checkE c x ∧ Below w.heap.size w w' := by
  have hI : (decide ((0 : Int) ≤ g) && decide (g ≤ 4)) = true := by simp; omega
  have HI := hid (fun w => rin_any g 0 4 w)
  rw [hI] at HI
  have m1 : ((n : Int) == 0) = false := beq_eq_false_iff_ne.2 (by omega)
  have m2 : decide ((4 : Int) < (n : Int)) = false := by simp; omega
  have HR := hid hr
  have HG := hid hg
  have HN := hid hn
  clear hI hr hg hn
  go_enter Tryd.func7, Tryd.ntmps7
  go_wp2_with (go_at_call 30; refine (HI.out _).mono ?_; rintro e w' ⟨rfl, hw⟩; obtain rfl := hw.symm)
  obtain ⟨B, hB⟩ : ∃ B, w.heap.size = B := ⟨_, rfl⟩
  have HW0 := hid ((Below.refl B w).alloc (Nat.le_of_eq hB.symm) (.cells #[.int .i64 g, .slice (some ⟨b, off, none⟩) n cap] 24))
  have HR0 : Hid (CRow (w.alloc (.cells #[.int .i64 g, .slice (some ⟨b, off, none⟩) n cap] 24)) (some ⟨b, off, none⟩) c.layers A C) := hid (HR.out.kept (by rw [hB]; exact HW0.out))
  have HX0 : Hid (Box2 (w.alloc (.cells #[.int .i64 g, .slice (some ⟨b, off, none⟩) n cap] 24)) B (.int .i64 g) (.slice (some ⟨b, off, none⟩) n cap)) := hid (by rw [← hB]; exact Box2.new w _ _ _)
  rw [hB]
  generalize w.alloc (.cells #[.int .i64 g, .slice (some ⟨b, off, none⟩) n cap] 24) = W0 at HW0 HR0 HX0 ⊢
  have HBE := hid hB
  clear HR hB HI
  go_loopg [3] n (fun q i wr => ∃ k : Nat, k ≤ n ∧ q = n - k ∧ i = .int .i64 (k : Int) ∧ Hid (Below B w wr) ∧ Hid (CRow wr (some ⟨b, off, none⟩) c.layers A C) ∧ Hid (Box2 wr B (.int .i64 g) (.slice (some ⟨b, off, none⟩) n cap)) ∧ Hid (∀ j, j < k → ∀ x, c.layers[j]? = some x → x.right (belowQ c j)))
  case atStart => exact ⟨0, by omega, rfl, rfl, HW0, HR0, HX0, hid (fun j hj => absurd hj (by omega))⟩
  case round =>
    clear HW0 HR0 HX0
    obtain ⟨k, hk, rfl, rfl, HB, HR, HX, HD⟩ := hrel
    obtain ⟨x0, x1, xl⟩ := HX.out
    by_cases hlt : k < n
    · obtain ⟨l, hl⟩ : ∃ l, c.layers[k]? = some l := ⟨c.layers[k]'(by rw [HN.out]; exact hlt), by simp⟩
      obtain ⟨b', off', eb, hc⟩ := HR.out (by intro e; have := HN.out; rw [e] at this; simp at this; omega)
      cases eb
      obtain ⟨y0, y1, y2, y3⟩ := hc k l hl
      have yb : b < wr.heap.size := World.block_lt_of_cell? wr _ y0
      rw [Nat.mul_comm 2 k] at y0 y1
      clear hc
      have HY2 := hid y2
      have HL := hid hl
      clear y2 hl y3
      obtain ⟨lg, hlg⟩ : ∃ x, l.log = x := ⟨_, rfl⟩
      obtain ⟨m, hm⟩ : ∃ x, l.gates.length = x := ⟨_, rfl⟩
      obtain ⟨ga, hga⟩ : ∃ x, A k = x := ⟨_, rfl⟩
      obtain ⟨gc, hgc⟩ : ∃ x, C k = x := ⟨_, rfl⟩
      rw [hlg] at y0
      rw [hm, hga, hgc] at y1
      rw [hga] at HY2
      have HLG := hid hlg
      have HM := hid hm
      clear hlg hm hga hgc
      have k0 : (0 : Int) ≤ (k : Int) := by omega
      have k1 : (k : Int) < (n : Int) := by omega
      have hbel : Hid (∃ bk : Nat, belowQ c k = (bk : Int) ∧ bk ≤ 4) := hid (below_rng HG.out h0 h4 HD.out)
      by_cases hin : 0 ≤ lg ∧ lg ≤ 4
      · obtain ⟨lk, rfl⟩ : ∃ lk : Nat, lg = (lk : Int) := ⟨lg.toNat, by omega⟩
        have hI : (decide ((0 : Int) ≤ (lk : Int)) && decide ((lk : Int) ≤ 4)) = true := by simp; omega
        have HI := hid (fun w => rin_any (lk : Int) 0 4 w)
        rw [hI] at HI
        clear hI
        have lk4 : lk ≤ 4 := by omega
        obtain ⟨N, hN⟩ : ∃ N, N = 2 ^ lk := ⟨_, rfl⟩
        have sh : wrap64 ((2 : Int) ^ lk) = (N : Int) := by rw [hN]; exact shl_pow (by omega)
        have sh2 : IntKind.i64.wrap ((2 : Int) ^ lk) = (N : Int) := by rw [IntWalk.i64_left]; exact sh
        have HNN := hid hN
        clear hN
        by_cases hmN : m = N
        · subst hmN
          go_wp2_with (go_at_call 30; refine (HI.out _).mono ?_; rintro e w' ⟨rfl, hw⟩; obtain rfl := hw.symm)
          go_quiet (fail)
          go_wp2_with fail
          obtain ⟨bk, hbk, bk4⟩ := hbel.out
          have HL0 := hid (Box2.new wr (.int .i64 (lk : Int)) (.slice ga m gc) 50)
          have hal := (Below.refl wr.heap.size wr).alloc (Nat.le_refl _) (.cells #[.int .i64 (lk : Int), .slice ga m gc] 50)
          have HB0 := hid (HB.out.alloc (Nat.le_of_lt xl) (.cells #[.int .i64 (lk : Int), .slice ga m gc] 50))
          have HX0 := hid (HX.out.kept hal)
          have HR0 := hid (HR.out.kept hal)
          have HY0 := hid (HY2.out.kept hal)
          clear x0 x1 y0 y1 HX HR HY2 hal HB yb HI
          obtain ⟨L, hL⟩ : ∃ L, wr.heap.size = L := ⟨_, rfl⟩
          rw [hL] at HL0 xl ⊢
          clear hL
          generalize wr.alloc (.cells #[.int .i64 (lk : Int), .slice ga m gc] 50) = W1 at HL0 HB0 HX0 HR0 HY0 ⊢
          refine (rbelow_any c g b off n cap k A C _ HG.out HN.out n4 (by omega) (by exact HR0.out)).mono ?_
          rintro e w1 ⟨rfl, hb1⟩
          have hb2 : Below W1.heap.size W1 w1 := ⟨hb1.os, hb1.tape, hb1.output, hb1.size, hb1.block⟩
          have HB1 := hid (HB0.out.trans (hb2.mono (Nat.le_trans (Nat.le_of_lt xl) (Nat.le_of_lt HL0.out.lt))))
          have HX1 := hid (HX0.out.kept hb2)
          have HR1 := hid (HR0.out.kept hb2)
          have HY1 := hid (HY0.out.kept hb2)
          obtain ⟨z0, z1, zl⟩ := HL0.out.kept hb2
          clear hb1 hb2 HL0 HX0 HR0 HY0 HB0 hbel
          rw [hbk]
          obtain ⟨M, hM⟩ : ∃ M, M = 2 ^ bk := ⟨_, rfl⟩
          have shM : wrap64 ((2 : Int) ^ bk) = (M : Int) := by rw [hM]; exact shl_pow (by omega)
          have M1 : 1 ≤ M := by rw [hM]; exact Nat.one_le_two_pow
          have M2 : M ≤ 16 := by rw [hM]; exact Nat.le_trans (Nat.pow_le_pow_right (by omega) bk4) (by decide)
          have HM2 : Hid ((M : Int) = ((2 ^ (belowQ c k).toNat : Nat) : Int)) := hid (by rw [hM, hbk]; simp)
          clear hM hbk sh sh2
          have m16 : m ≤ 16 := by rw [HNN.out]; exact Nat.le_trans (Nat.pow_le_pow_right (by omega) lk4) (by decide)
          go_wp2_with fail
          clear shM
          go_loopg [6] m (fun q i wx => ∃ t : Nat, t ≤ m ∧ q = m - t ∧ i = .int .i64 (t : Int) ∧ wx = w1 ∧ Hid (∀ j, j < t → ∀ x, l.gates[j]? = some x → gateOk (M : Int) x))
          case atStart => exact ⟨0, by omega, rfl, rfl, rfl, hid (fun j hj => absurd hj (by omega))⟩
          case round =>
            obtain ⟨t, ht, rfl, rfl, hwx, HT⟩ := hrel
            subst hwx
            by_cases htl : t < m
            · obtain ⟨x, hx⟩ : ∃ x, l.gates[t]? = some x := ⟨l.gates[t]'(by rw [HM.out]; exact htl), by simp⟩
              obtain ⟨gb, go, rfl, hgc⟩ := HY1.out (by intro e; have := HM.out; rw [e] at this; simp at this; omega)
              obtain ⟨_, q1, q2⟩ := hgc t x hx
              rw [Nat.mul_comm 3 t] at q1 q2
              obtain ⟨xa, hxa⟩ : ∃ v, x.a = v := ⟨_, rfl⟩
              obtain ⟨xb, hxb⟩ : ∃ v, x.b = v := ⟨_, rfl⟩
              rw [hxa] at q1
              rw [hxb] at q2
              have HXX := hid (And.intro hx (And.intro hxa hxb))
              clear hgc hx hxa hxb
              have t0 : (0 : Int) ≤ (t : Int) := by omega
              have t1 : (t : Int) < (m : Int) := by omega
              have HIA := hid (fun w => rin_any xa 0 ((M : Int) - 1) w)
              have HIB := hid (fun w => rin_any xb 0 ((M : Int) - 1) w)
              by_cases ha : 0 ≤ xa ∧ xa < M
              · have hI : (decide ((0 : Int) ≤ xa) && decide (xa ≤ (M : Int) - 1)) = true := by simp; omega
                rw [hI] at HIA
                clear hI
                by_cases hb : 0 ≤ xb ∧ xb < M
                · have hI : (decide ((0 : Int) ≤ xb) && decide (xb ≤ (M : Int) - 1)) = true := by simp; omega
                  rw [hI] at HIB
                  clear hI
                  go_wp2_with fail
                  refine (HIA.out _).mono ?_
                  rintro e w' ⟨rfl, hw⟩
                  obtain rfl := hw.symm
                  go_wp2_with fail
                  refine (HIB.out _).mono ?_
                  rintro e w' ⟨rfl, hw⟩
                  obtain rfl := hw.symm
                  go_wp2_with fail
                  go_roundg (m - (t + 1))
                  case measure => go_light; omega
                  case rel =>
                    refine ⟨t + 1, by omega, rfl, by go_num, rfl, hid fun j hj y hy => ?_⟩
                    by_cases hjt : j < t
                    · exact HT.out j hjt y hy
                    · obtain rfl : j = t := by omega
                      obtain ⟨e1, e2, e3⟩ := HXX.out
                      rw [e1] at hy
                      cases hy
                      exact ⟨by rw [e2]; exact ha, by rw [e3]; exact hb⟩
                · have hI : (decide ((0 : Int) ≤ xb) && decide (xb ≤ (M : Int) - 1)) = false := by simp; omega
                  rw [hI] at HIB
                  clear hI
                  go_wp2_with fail
                  refine (HIA.out _).mono ?_
                  rintro e w' ⟨rfl, hw⟩
                  obtain rfl := hw.symm
                  go_wp2_with fail
                  refine (HIB.out _).mono ?_
                  rintro e w' ⟨rfl, hw⟩
                  obtain rfl := hw.symm
                  go_wp2_with fail
                  go_ret
                  obtain ⟨e1, e2, e3⟩ := HXX.out
                  refine ⟨1, rfl, checkE_stop (by rw [HG.out]; exact ⟨h0, h4⟩) (by rw [HN.out]; exact n4) HD.out HL.out (.inr (.inr (.inl ⟨by rw [HLG.out]; omega, by rw [HM.out, HLG.out]; exact HNN.out, ⟨x, List.mem_of_getElem? e1, fun h => hb ?_⟩, rfl⟩))) (by decide), ?_⟩
                  · rw [← HM2.out] at h; rw [← e3]; exact h.2
                  · rw [HBE.out]; exact HB1.out
              · have hI : (decide ((0 : Int) ≤ xa) && decide (xa ≤ (M : Int) - 1)) = false := by simp; omega
                rw [hI] at HIA
                clear hI
                go_wp2_with fail
                refine (HIA.out _).mono ?_
                rintro e w' ⟨rfl, hw⟩
                obtain rfl := hw.symm
                go_wp2_with fail
                go_ret
                obtain ⟨e1, e2, e3⟩ := HXX.out
                refine ⟨1, rfl, checkE_stop (by rw [HG.out]; exact ⟨h0, h4⟩) (by rw [HN.out]; exact n4) HD.out HL.out (.inr (.inr (.inl ⟨by rw [HLG.out]; omega, by rw [HM.out, HLG.out]; exact HNN.out, ⟨x, List.mem_of_getElem? e1, fun h => ha ?_⟩, rfl⟩))) (by decide), ?_⟩
                · rw [← HM2.out] at h; rw [← e2]; exact h.1
                · rw [HBE.out]; exact HB1.out
            · have e : t = m := by omega
              subst e
              go_wp2_with fail
              go_roundg (n - (k + 1))
              case measure => go_light; omega
              case rel =>
                refine ⟨k + 1, by omega, rfl, by go_num, HB1, HR1, HX1, hid fun j hj y hy => ?_⟩
                by_cases hjk : j < k
                · exact HD.out j hjk y hy
                · obtain rfl : j = k := by omega
                  rw [HL.out] at hy
                  cases hy
                  refine ⟨by rw [HLG.out]; omega, by rw [HM.out, HLG.out]; exact HNN.out, fun q hq => ?_⟩
                  obtain ⟨i, hi, rfl⟩ := List.getElem_of_mem hq
                  rw [← HM2.out]
                  exact HT.out i (by rw [← HM.out]; exact hi) _ (by simp)
        · have e1 : ((m : Int) != (N : Int)) = true := by simp; omega
          go_wp2_with (go_at_call 30; refine (HI.out _).mono ?_; rintro e w' ⟨rfl, hw⟩; obtain rfl := hw.symm)
          go_quiet (fail)
          go_wp2_with fail
          go_ret
          refine ⟨4, rfl, ?_, ?_⟩
          all_goals first | (rw [HBE.out]; have hal := HB.out.alloc (Nat.le_of_lt xl) (.cells #[.int .i64 (lk : Int), .slice ga m gc] 50); exact ⟨hal.os, hal.tape, hal.output, hal.size, hal.block⟩) | exact checkE_stop (by rw [HG.out]; exact ⟨h0, h4⟩) (by rw [HN.out]; exact n4) HD.out HL.out (.inr (.inl ⟨by rw [HLG.out]; omega, by rw [HM.out, HLG.out]; rw [HNN.out] at hmN; exact hmN, rfl⟩)) (by decide)
      · have hI : (decide ((0 : Int) ≤ lg) && decide (lg ≤ 4)) = false := by simp; omega
        have HI := hid (fun w => rin_any lg 0 4 w)
        rw [hI] at HI
        clear hI
        go_wp2_with (go_at_call 30; refine (HI.out _).mono ?_; rintro e w' ⟨rfl, hw⟩; obtain rfl := hw.symm)
        go_ret
        refine ⟨1, rfl, checkE_stop (by rw [HG.out]; exact ⟨h0, h4⟩) (by rw [HN.out]; exact n4) HD.out HL.out (.inl ⟨by rw [HLG.out]; exact hin, rfl⟩) (by decide), ?_⟩
        rw [HBE.out]
        exact HB.out.alloc (Nat.le_of_lt xl) _
    · have e : k = n := by omega
      subst e
      go_wp2_with fail
      go_ret
      refine ⟨0, rfl, checkE_all (by rw [HG.out]; exact ⟨h0, h4⟩) (by intro e; have := HN.out; rw [e] at this; simp at this; omega) (by rw [HN.out]; exact n4) (fun j x hx => HD.out j (by have := (List.getElem?_eq_some_iff.1 hx).1; rw [HN.out] at this; exact this) x hx), ?_⟩
      rw [HBE.out]
      exact HB.out

/-- Circuit, of every circuit. -/
theorem rcirc_any (c : CQ) (g : Int) (ao : Option Addr) (n cap : Nat) (A : Nat → Option Addr) (C : Nat → Nat) (w : World) (hg : c.log = g) (hn : c.layers.length = n) (hr : CRow w ao c.layers A C) :
    Calls Tryd.prog 7 #[.agg #[.int .i64 g, .slice ao n cap]] w fun e w' => ∃ x, e = .returned (.int .i64 x) ∧ checkE c x ∧ Below w.heap.size w w' := by
  by_cases h : 0 ≤ g ∧ g ≤ 4
  · by_cases hz : n = 0
    · subst hz
      exact (rcirc_none g ao cap w h.1 h.2).mono fun e w' ⟨he, hb⟩ => ⟨1, he, .inl ⟨.inr (List.eq_nil_of_length_eq_zero hn), rfl⟩, hb⟩
    · by_cases h4 : 4 < n
      · exact (rcirc_large g ao n cap w h.1 h.2 h4).mono fun e w' ⟨he, hb⟩ => ⟨2, he, .inr (.inl ⟨by rw [hg]; exact h, by rw [hn]; exact h4, rfl⟩), hb⟩
      · obtain ⟨b, off, rfl, _⟩ := hr (by intro e; rw [e] at hn; simp at hn; omega)
        exact rcirc_main c g b off n cap A C w hg hn h.1 h.2 (by omega) (by omega) hr
  · exact (rcirc_log g ao n cap w h).mono fun e w' ⟨he, hb⟩ => ⟨1, he, .inl ⟨.inl (by rw [hg]; exact h), rfl⟩, hb⟩

end Go.Proofs.YtmjpcmeinlkfbaaDoor

/-
  A contract of tallyref's Values, for right circuits and inputs; it makes new blocks and writes nothing that was there.
-/
namespace Go.Proofs.YtmjpcmeinlkfbaaDoor
open Go.RowKit
set_option linter.unusedVariables false
attribute [local go_sem ↓] Go.wp_at_zero Go.wp_at_succ

theorem vnews (w : World) (x : Int) (t : TypeId) : ∀ j u, [Value.int .u64 x][j]? = some u → (w.alloc (.cells #[.int .u64 x] t)).cell? ((⟨w.heap.size, 0, none⟩ : Addr).add j) = some u := by
  intro j u hj
  match j, hj with
  | 0, hj => simp at hj; subst hj; simp [Addr.add]
theorem vone (x : Int) : ∀ u ∈ [Value.int .u64 x], u.oneCell' = true := by intro u hu; simp at hu; subst hu; rfl
/-- One number more behind a list of the call's own. -/
theorem vsnoc {w w1 w2 : World} {B : Nat} {v : Value} {n g c : Nat} {F : Nat → Int} {x : Int} {t : TypeId} (hb : Below B w w1) (hB : B ≤ w1.heap.size) (ho : Own w1 B v n F)
    (hown : w2.ownsRow B 45 1 (.slice (some ⟨g, 0, none⟩) (n + 1) c) (n + 1) (cellsOf n F ++ [.int .u64 x])) (hg : (w1.alloc (.cells #[.int .u64 x] t)).grownBy w2 v.ownBlock)
    (hx : F n = x) : Own w2 B (.slice (some ⟨g, 0, none⟩) (n + 1) c) (n + 1) F ∧ Below B w w2 := by
  refine ⟨?_, (hb.alloc hB _).grown hg (by simp; omega) (by intro t ht; exact (World.ownsRow.lt ho t ht).1)⟩
  rw [cellsOf_snoc] at hown
  exact Own.congr hown fun j hj => by
    unfold catF
    by_cases e : j < n
    · rw [if_pos e]
    · rw [if_neg e, show j = n from by omega]; exact hx.symm
theorem layV_at2 {gs : List GQ} {F : Nat → Int} {t : Nat} {x : GQ} (h : gs[t]? = some x) : layV gs F t = if x.mul then mulQ (F x.a.toNat) (F x.b.toNat) else addQ (F x.a.toNat) (F x.b.toNat) := by
  unfold layV; rw [h]
theorem grown_cell {w w2 : World} {o : Obj} {r : Option Nat} {b p : Nat} {u : Value} (hg : (w.alloc o).drew.grownBy w2 r) (hne : some b ≠ r) (hb : b < w.heap.size) (h : w.cell? ⟨b, p, none⟩ = some u) : w2.cell? ⟨b, p, none⟩ = some u := by
  refine hg.cell ?_ hne
  show (w.alloc o).cell? _ = _
  rw [World.cell?_alloc_old _ _ _ (Nat.ne_of_lt hb)]; exact h
theorem grown_undrew {w w2 : World} {r : Option Nat} (h : w.drew.grownBy w2 r) : w.grownBy w2 r := ⟨h.os, h.tape, h.output, h.size, h.block⟩

set_option maxHeartbeats 1000000 in
set_option maxRecDepth 100000 in
theorem rvals_zero (g : Int) (ao : Option Addr) (n cap db doff N kc : Nat) (f : Nat → Int) (w : World) (hN : N ≤ 1000) (hr : Row w db doff N f) (hf : Nums f) :
    Calls Tryd.prog 19 #[.agg #[.int .i64 g, .slice ao n cap], .slice (some ⟨db, doff, none⟩) N kc, .int .i64 (-1)] w fun e w' => ∃ v, e = .returned v ∧ Own w' w.heap.size v N (fun j => nrm (f j)) ∧ Below w.heap.size w w' := by
  obtain ⟨i0, hi, hz0, hz1, hz2⟩ := info_parts Tryd.infoO
  have HI := hid (And.intro hi (And.intro hz0 (And.intro hz1 hz2)))
  clear hi hz0 hz1 hz2
  have HR := hid hr
  have HF := hid hf
  clear hr hf
  go_enter Tryd.func19, Tryd.ntmps19
  go_wp2_with fail
  have HW0 := hid ((Below.refl w.heap.size w).alloc (Nat.le_refl _) (.cells #[.int .i64 g, .slice ao n cap] 24))
  generalize w.alloc (.cells #[.int .i64 g, .slice ao n cap] 24) = W0 at HW0 ⊢
  go_loopg [7, 8] N (fun q o i wr => ∃ (k : Nat) (v : Value), k ≤ N ∧ q = N - k ∧ o = v ∧ i = .int .i64 (k : Int) ∧ Hid (Own wr w.heap.size v k (fun j => nrm (f j))) ∧ Hid (Below w.heap.size w wr))
  case atStart => exact ⟨0, _, by omega, rfl, rfl, rfl, hid (Own.nil _ _ _), HW0⟩
  case round =>
    clear HW0
    obtain ⟨k, v, hk, rfl, rfl, rfl, HO, HB⟩ := hrel
    by_cases hlt : k < N
    · have c1 : wr.cell? ⟨db, doff + k, none⟩ = some (.int .u64 (f k)) := (HR.out.kept HB.out (HR.out.lt (by omega))) k hlt
      obtain ⟨a, ha⟩ : ∃ a, f k = a := ⟨_, rfl⟩
      obtain ⟨a0, a1⟩ := HF.out k
      rw [ha] at c1 a0 a1
      have HY : Hid ((fun j => nrm (f j)) k = nrm a) := hid (by show nrm (f k) = _; rw [ha])
      have k0 : (0 : Int) ≤ (k : Int) := by omega
      have k1 : (k : Int) < (N : Int) := by omega
      have hs := HB.out.size
      clear ha
      have HNN := hid (rnorm_any a wr a0 a1)
      obtain ⟨y, hy⟩ : ∃ y, nrm a = y := ⟨_, rfl⟩
      rw [hy] at HY HNN
      clear hy
      go_wp2_with fail
      refine (HNN.out).mono ?_
      rintro e w' ⟨rfl, hw⟩
      obtain rfl := hw.symm
      go_wp2_with (at_builtin; refine wpList_append_lies _ rfl _ _ 25 rfl w.heap.size 45 i0 (.int .u64 0) 1 8 Tryd.underlying25 HI.out.1 HI.out.2.1 HI.out.2.2.1 HI.out.2.2.2 rfl (by decide) _ _ _ rfl (World.ownsRow.alloc HO.out _) ⟨wr.heap.size, 0, none⟩ 1 1 [.int .u64 y] rfl rfl (vnews wr y _) (vone y) (by omega) (by unfold maxLen; omega) (by omega) (by simp; omega) (wr.heap.size + 1) (by simp) ?_)
      intro g2 c2 w6 hown2 hgrow2 hat2 hlt2
      have HS := hid (vsnoc HB.out hs HO.out hown2 hgrow2 HY.out)
      clear hown2 hgrow2 hat2 hlt2
      go_wp2_with fail
      go_roundg (N - (k + 1))
      case measure => go_light; omega
      case rel => exact ⟨k + 1, _, by omega, rfl, rfl, by go_num, hid HS.out.1, hid HS.out.2⟩
    · have e : k = N := by omega
      subst e
      go_wp2_with fail
      go_ret
      exact ⟨_, rfl, HO.out, HB.out⟩

set_option maxHeartbeats 1000000 in
set_option maxRecDepth 100000 in
theorem rvals_step (l : LQ) (g : Int) (b off n cap : Nat) (ga : Option Addr) (gc : Nat) (ad : Option Addr) (N kc k nb m : Nat) (F G : Nat → Int) (w : World) (hk : k < n) (n4 : n ≤ 4) (hm : l.gates.length = m) (m16 : m ≤ 16) (nb16 : nb ≤ 16) (hF : Nums F) (hG : layV l.gates F = G)
    (hc : w.cell? ⟨b, off + 2 * k + 1, none⟩ = some (.slice ga m gc)) (hgr : GRow w ga l.gates) (hok : ∀ q ∈ l.gates, gateOk (nb : Int) q)
    (ih : ∀ W, Below w.heap.size w W → Calls Tryd.prog 19 #[.agg #[.int .i64 g, .slice (some ⟨b, off, none⟩) n cap], .slice ad N kc, .int .i64 ((k : Int) - 1)] W fun e w' => ∃ v, e = .returned v ∧ Own w' W.heap.size v nb F ∧ Below W.heap.size W w') :
    Calls Tryd.prog 19 #[.agg #[.int .i64 g, .slice (some ⟨b, off, none⟩) n cap], .slice ad N kc, .int .i64 (k : Int)] w fun e w' => ∃ v, e = .returned v ∧ Own w' w.heap.size v m G ∧ Below w.heap.size w w' := by
  obtain ⟨i0, hi, hz0, hz1, hz2⟩ := info_parts Tryd.infoO
  have HI := hid (And.intro hi (And.intro hz0 (And.intro hz1 hz2)))
  clear hi hz0 hz1 hz2
  rw [Nat.mul_comm 2 k] at hc
  have bl : b < w.heap.size := World.block_lt_of_cell? w _ hc
  have HC := hid (And.intro hc bl)
  have HGR := hid hgr
  have HOK := hid hok
  have HF := hid hF
  have HG := hid hG
  have HM := hid hm
  have HIH := hid ih
  have kk0 : ¬ ((k : Int) < 0) := by omega
  have k0 : (0 : Int) ≤ (k : Int) := by omega
  have k1 : (k : Int) < (n : Int) := by omega
  clear hc hgr hok hF hG hm ih bl
  go_enter Tryd.func19, Tryd.ntmps19
  go_wp2_with fail
  have HW0 := hid ((Below.refl w.heap.size w).alloc (Nat.le_refl _) (.cells #[.int .i64 g, .slice (some ⟨b, off, none⟩) n cap] 24))
  have HX0 := hid (Box2.new w (.int .i64 g) (.slice (some ⟨b, off, none⟩) n cap) 24)
  obtain ⟨B, hB⟩ : ∃ B, w.heap.size = B := ⟨_, rfl⟩
  rw [hB] at HX0 ⊢
  have HBE := hid hB
  clear hB
  refine (HIH.out _ HW0.out).mono ?_
  rintro e w3 ⟨vb, rfl, hob, hbb⟩
  obtain ⟨ab, cb, rfl, hpb, _⟩ := hob.is
  have HX3 := hid (HX0.out.kept hbb)
  have HW3 := hid (HW0.out.trans (hbb.mono HW0.out.size))
  have HPB := hid hpb
  clear hob hbb hpb HX0 HW0 HIH
  obtain ⟨E, hE⟩ : ∃ E, w3.heap.size = E := ⟨_, rfl⟩
  have HEE := hid hE
  clear hE
  go_wp2_with fail
  go_loopg [7, 10] m (fun q o i wr => ∃ (t : Nat) (v : Value), t ≤ m ∧ q = m - t ∧ o = v ∧ i = .int .i64 (t : Int) ∧ Hid (Own wr E v t G) ∧ Hid (Below E w3 wr))
  case atStart => exact ⟨0, _, by omega, rfl, rfl, rfl, hid (Own.nil _ _ _), hid (Below.refl _ _)⟩
  case round =>
    obtain ⟨t, v, ht, rfl, hv, rfl, HO, HB⟩ := hrel
    obtain rfl := hv.symm
    have hs : E ≤ wr.heap.size := by have h1 := HB.out.size; have h2 := HEE.out; omega
    have HB3 : Hid (Below w.heap.size w wr) := hid (HW3.out.trans (HB.out.mono (by have h1 := HW3.out.size; have h2 := HEE.out; omega)))
    have hbw : Below w3.heap.size w3 wr := by rw [HEE.out]; exact HB.out
    obtain ⟨x0, x1, xl⟩ := HX3.out.kept hbw
    have y1 : wr.cell? ⟨b, off + k * 2 + 1, none⟩ = some (.slice ga m gc) := (HB3.out.cell HC.out.2).trans HC.out.1
    by_cases htl : t < m
    · obtain ⟨x, hx⟩ : ∃ x, l.gates[t]? = some x := ⟨l.gates[t]'(by rw [HM.out]; exact htl), by simp⟩
      obtain ⟨gb, go, rfl, hgc⟩ := HGR.out.kept HB3.out (by intro e; have := HM.out; rw [e] at this; simp at this; omega)
      obtain ⟨q0, q1, q2⟩ := hgc t x hx
      obtain ⟨⟨a0, a1⟩, b0, b1⟩ := HOK.out x (List.mem_of_getElem? hx)
      rw [Nat.mul_comm 3 t] at q0 q1 q2
      obtain ⟨xm, hxm⟩ : ∃ v, x.mul = v := ⟨_, rfl⟩
      obtain ⟨ia, hia⟩ : ∃ v : Nat, x.a = (v : Int) := ⟨x.a.toNat, by omega⟩
      obtain ⟨ib, hib⟩ : ∃ v : Nat, x.b = (v : Int) := ⟨x.b.toNat, by omega⟩
      rw [hxm] at q0
      rw [hia] at q1 a1
      rw [hib] at q2 b1
      have hlay := layV_at2 (F := F) hx
      rw [hxm, hia, hib, Int.toNat_natCast, Int.toNat_natCast, HG.out] at hlay
      clear hgc hx hxm hia hib a0 b0
      obtain ⟨bb, boff, eb, hrow⟩ := HPB.out.kept hbw (by omega)
      subst eb
      obtain ⟨va, hva⟩ : ∃ v, F ia = v := ⟨_, rfl⟩
      obtain ⟨vb, hvb⟩ : ∃ v, F ib = v := ⟨_, rfl⟩
      have ca := hrow ia (by omega)
      have cb2 := hrow ib (by omega)
      have bbl : bb < wr.heap.size := World.block_lt_of_cell? wr _ ca
      have bbE : bb < E := by obtain ⟨b9, o9, e9, h9⟩ := HPB.out (by omega); cases e9; rw [← HEE.out]; exact World.block_lt_of_cell? w3 _ (h9 ia (by omega))
      obtain ⟨va0, va1⟩ := HF.out ia
      obtain ⟨vb0, vb1⟩ := HF.out ib
      rw [hva] at va0 va1 hlay ca
      rw [hvb] at vb0 vb1 hlay cb2
      clear hva hvb hrow hbw
      have t0 : (0 : Int) ≤ (t : Int) := by omega
      have t1 : (t : Int) < (m : Int) := by omega
      have i1 : (0 : Int) ≤ (ia : Int) := by omega
      have i2 : (0 : Int) ≤ (ib : Int) := by omega
      have i3 : ia < nb := by omega
      have i4 : ib < nb := by omega
      rcases (by cases xm; exact .inr rfl; exact .inl rfl : xm = true ∨ xm = false) with hxm | hxm
      · subst hxm
        rw [if_pos rfl] at hlay
        obtain ⟨y, hy⟩ : ∃ y, mulQ va vb = y := ⟨_, rfl⟩
        have HMU := hid (fun W => rmul_any va vb W (by omega) (by omega) (by omega) (by omega))
        rw [hy] at HMU hlay
        have HLAY := hid hlay
        have hal := (Below.refl wr.heap.size wr).alloc (Nat.le_refl _) (.cells #[.bool true, .int .i64 (ia : Int), .int .i64 (ib : Int)] 69)
        clear hlay hy
        go_wp2_with fail
        have HNE : Hid (some bb ≠ v.ownBlock ∧ some wr.heap.size ≠ v.ownBlock) := hid ⟨fun e => by have := (World.ownsRow.lt HO.out bb e.symm).1; omega, fun e => by have := (World.ownsRow.lt HO.out _ e.symm).2; omega⟩
        have HO1 := hid (HO.out.kept hal)
        have HB1 := hid (HB.out.trans (hal.mono hs))
        have g0 : (wr.alloc (.cells #[.bool true, .int .i64 (ia : Int), .int .i64 (ib : Int)] 69)).cell? ⟨wr.heap.size, 1, none⟩ = some (.int .i64 (ia : Int)) := by rw [World.cell?_alloc_new]; rfl
        have g1 : (wr.alloc (.cells #[.bool true, .int .i64 (ia : Int), .int .i64 (ib : Int)] 69)).cell? ⟨wr.heap.size, 2, none⟩ = some (.int .i64 (ib : Int)) := by rw [World.cell?_alloc_new]; rfl
        have g2 : (wr.alloc (.cells #[.bool true, .int .i64 (ia : Int), .int .i64 (ib : Int)] 69)).cell? ⟨bb, boff + ia, none⟩ = some (.int .u64 va) := (hal.cell (p := ⟨bb, boff + ia, none⟩) bbl).trans ca
        have g3 : (wr.alloc (.cells #[.bool true, .int .i64 (ia : Int), .int .i64 (ib : Int)] 69)).cell? ⟨bb, boff + ib, none⟩ = some (.int .u64 vb) := (hal.cell (p := ⟨bb, boff + ib, none⟩) bbl).trans cb2
        have gsz : (wr.alloc (.cells #[.bool true, .int .i64 (ia : Int), .int .i64 (ib : Int)] 69)).heap.size = wr.heap.size + 1 := by simp
        obtain ⟨Gb, hGb⟩ : ∃ G, wr.heap.size = G := ⟨_, rfl⟩
        rw [hGb] at g0 g1 gsz hs bbl HNE ⊢
        clear hGb hal q0 q1 q2 ca cb2
        generalize wr.alloc (.cells #[.bool true, .int .i64 (ia : Int), .int .i64 (ib : Int)] 69) = W1 at HO1 HB1 g0 g1 g2 g3 gsz ⊢
        have HS4 := hid (And.intro g0 (And.intro g1 (And.intro g2 g3)))
        have sz1 : Gb < W1.heap.size := by omega
        have sz2 : bb < W1.heap.size := by omega
        have sz3 : E ≤ W1.heap.size := by omega
        clear gsz
        have HK : Hid (∀ o, (W1.alloc o).cell? ⟨Gb, 1, none⟩ = some (.int .i64 (ia : Int)) ∧ (W1.alloc o).cell? ⟨Gb, 2, none⟩ = some (.int .i64 (ib : Int)) ∧ (W1.alloc o).cell? ⟨bb, boff + ia, none⟩ = some (.int .u64 va) ∧ (W1.alloc o).cell? ⟨bb, boff + ib, none⟩ = some (.int .u64 vb)) := hid fun o => by
          refine ⟨?_, ?_, ?_, ?_⟩
          · rw [World.cell?_alloc_old _ _ _ (Nat.ne_of_lt sz1)]; exact g0
          · rw [World.cell?_alloc_old _ _ _ (Nat.ne_of_lt sz1)]; exact g1
          · rw [World.cell?_alloc_old _ _ _ (Nat.ne_of_lt sz2)]; exact g2
          · rw [World.cell?_alloc_old _ _ _ (Nat.ne_of_lt sz2)]; exact g3
        go_region_held3 (fun w' => w'.cell? ⟨Gb, 1, none⟩ = some (.int .i64 (ia : Int)) ∧ w'.cell? ⟨Gb, 2, none⟩ = some (.int .i64 (ib : Int)) ∧ w'.cell? ⟨bb, boff + ia, none⟩ = some (.int .u64 va) ∧ w'.cell? ⟨bb, boff + ib, none⟩ = some (.int .u64 vb)) (first | assumption | exact HS4.out | exact HK.out _ | exact hk3) (first
          | (go_at_call 53; refine (HMU.out _).mono ?_; rintro e w' ⟨rfl, hw⟩; obtain rfl := hw.symm)
          | (refine step_append_lies _ (by rfl) _ _ 25 (by rfl) E 45 i0 (.int .u64 0) 1 8 Tryd.underlying25 HI.out.1 HI.out.2.1 HI.out.2.2.1 HI.out.2.2.2 rfl (by decide) v t (cellsOf t G) (by rfl) (World.ownsRow.alloc HO1.out _) ⟨W1.heap.size, 0, none⟩ 1 1 [.int .u64 y] (by rfl) (by rfl) (vnews W1 y _) (vone y) (by omega) (by unfold maxLen; omega) (by omega) (by simp; omega) (W1.heap.size + 1) (by simp) ?_; intro g2' c2' w6 hown2 hgrow2 hat2 hlt2; have hk3 : w6.cell? ⟨Gb, 1, none⟩ = some (.int .i64 (ia : Int)) ∧ w6.cell? ⟨Gb, 2, none⟩ = some (.int .i64 (ib : Int)) ∧ w6.cell? ⟨bb, boff + ia, none⟩ = some (.int .u64 va) ∧ w6.cell? ⟨bb, boff + ib, none⟩ = some (.int .u64 vb) := ⟨grown_cell hgrow2 HNE.out.2 sz1 HS4.out.1, grown_cell hgrow2 HNE.out.2 sz1 HS4.out.2.1, grown_cell hgrow2 HNE.out.1 sz2 HS4.out.2.2.1, grown_cell hgrow2 HNE.out.1 sz2 HS4.out.2.2.2⟩))
        have HS := hid (vsnoc HB1.out sz3 HO1.out hown2 (grown_undrew hgrow2) HLAY.out)
        clear hown2 hgrow2 hat2 hlt2
        go_wp2_with fail
        go_roundg (m - (t + 1))
        case measure => go_light; omega
        case rel => exact ⟨t + 1, _, by omega, rfl, rfl, by go_num, hid HS.out.1, hid HS.out.2⟩
      · subst hxm
        rw [if_neg (by decide)] at hlay
        obtain ⟨y, hy⟩ : ∃ y, addQ va vb = y := ⟨_, rfl⟩
        have HMU := hid (fun W => radd_any va vb W (by omega) (by omega) (by omega) (by omega))
        rw [hy] at HMU hlay
        have HLAY := hid hlay
        have hal := (Below.refl wr.heap.size wr).alloc (Nat.le_refl _) (.cells #[.bool false, .int .i64 (ia : Int), .int .i64 (ib : Int)] 69)
        clear hlay hy
        go_wp2_with fail
        have HNE : Hid (some bb ≠ v.ownBlock ∧ some wr.heap.size ≠ v.ownBlock) := hid ⟨fun e => by have := (World.ownsRow.lt HO.out bb e.symm).1; omega, fun e => by have := (World.ownsRow.lt HO.out _ e.symm).2; omega⟩
        have HO1 := hid (HO.out.kept hal)
        have HB1 := hid (HB.out.trans (hal.mono hs))
        have g0 : (wr.alloc (.cells #[.bool false, .int .i64 (ia : Int), .int .i64 (ib : Int)] 69)).cell? ⟨wr.heap.size, 1, none⟩ = some (.int .i64 (ia : Int)) := by rw [World.cell?_alloc_new]; rfl
        have g1 : (wr.alloc (.cells #[.bool false, .int .i64 (ia : Int), .int .i64 (ib : Int)] 69)).cell? ⟨wr.heap.size, 2, none⟩ = some (.int .i64 (ib : Int)) := by rw [World.cell?_alloc_new]; rfl
        have g2 : (wr.alloc (.cells #[.bool false, .int .i64 (ia : Int), .int .i64 (ib : Int)] 69)).cell? ⟨bb, boff + ia, none⟩ = some (.int .u64 va) := (hal.cell (p := ⟨bb, boff + ia, none⟩) bbl).trans ca
        have g3 : (wr.alloc (.cells #[.bool false, .int .i64 (ia : Int), .int .i64 (ib : Int)] 69)).cell? ⟨bb, boff + ib, none⟩ = some (.int .u64 vb) := (hal.cell (p := ⟨bb, boff + ib, none⟩) bbl).trans cb2
        have gsz : (wr.alloc (.cells #[.bool false, .int .i64 (ia : Int), .int .i64 (ib : Int)] 69)).heap.size = wr.heap.size + 1 := by simp
        obtain ⟨Gb, hGb⟩ : ∃ G, wr.heap.size = G := ⟨_, rfl⟩
        rw [hGb] at g0 g1 gsz hs bbl HNE ⊢
        clear hGb hal q0 q1 q2 ca cb2
        generalize wr.alloc (.cells #[.bool false, .int .i64 (ia : Int), .int .i64 (ib : Int)] 69) = W1 at HO1 HB1 g0 g1 g2 g3 gsz ⊢
        have HS4 := hid (And.intro g0 (And.intro g1 (And.intro g2 g3)))
        have sz1 : Gb < W1.heap.size := by omega
        have sz2 : bb < W1.heap.size := by omega
        have sz3 : E ≤ W1.heap.size := by omega
        clear gsz
        have HK : Hid (∀ o, (W1.alloc o).cell? ⟨Gb, 1, none⟩ = some (.int .i64 (ia : Int)) ∧ (W1.alloc o).cell? ⟨Gb, 2, none⟩ = some (.int .i64 (ib : Int)) ∧ (W1.alloc o).cell? ⟨bb, boff + ia, none⟩ = some (.int .u64 va) ∧ (W1.alloc o).cell? ⟨bb, boff + ib, none⟩ = some (.int .u64 vb)) := hid fun o => by
          refine ⟨?_, ?_, ?_, ?_⟩
          · rw [World.cell?_alloc_old _ _ _ (Nat.ne_of_lt sz1)]; exact g0
          · rw [World.cell?_alloc_old _ _ _ (Nat.ne_of_lt sz1)]; exact g1
          · rw [World.cell?_alloc_old _ _ _ (Nat.ne_of_lt sz2)]; exact g2
          · rw [World.cell?_alloc_old _ _ _ (Nat.ne_of_lt sz2)]; exact g3
        go_region_held3 (fun w' => w'.cell? ⟨Gb, 1, none⟩ = some (.int .i64 (ia : Int)) ∧ w'.cell? ⟨Gb, 2, none⟩ = some (.int .i64 (ib : Int)) ∧ w'.cell? ⟨bb, boff + ia, none⟩ = some (.int .u64 va) ∧ w'.cell? ⟨bb, boff + ib, none⟩ = some (.int .u64 vb)) (first | assumption | exact HS4.out | exact HK.out _ | exact hk3) (first
          | (go_at_call 39; refine (HMU.out _).mono ?_; rintro e w' ⟨rfl, hw⟩; obtain rfl := hw.symm)
          | (refine step_append_lies _ (by rfl) _ _ 25 (by rfl) E 45 i0 (.int .u64 0) 1 8 Tryd.underlying25 HI.out.1 HI.out.2.1 HI.out.2.2.1 HI.out.2.2.2 rfl (by decide) v t (cellsOf t G) (by rfl) (World.ownsRow.alloc HO1.out _) ⟨W1.heap.size, 0, none⟩ 1 1 [.int .u64 y] (by rfl) (by rfl) (vnews W1 y _) (vone y) (by omega) (by unfold maxLen; omega) (by omega) (by simp; omega) (W1.heap.size + 1) (by simp) ?_; intro g2' c2' w6 hown2 hgrow2 hat2 hlt2; have hk3 : w6.cell? ⟨Gb, 1, none⟩ = some (.int .i64 (ia : Int)) ∧ w6.cell? ⟨Gb, 2, none⟩ = some (.int .i64 (ib : Int)) ∧ w6.cell? ⟨bb, boff + ia, none⟩ = some (.int .u64 va) ∧ w6.cell? ⟨bb, boff + ib, none⟩ = some (.int .u64 vb) := ⟨grown_cell hgrow2 HNE.out.2 sz1 HS4.out.1, grown_cell hgrow2 HNE.out.2 sz1 HS4.out.2.1, grown_cell hgrow2 HNE.out.1 sz2 HS4.out.2.2.1, grown_cell hgrow2 HNE.out.1 sz2 HS4.out.2.2.2⟩))
        have HS := hid (vsnoc HB1.out sz3 HO1.out hown2 (grown_undrew hgrow2) HLAY.out)
        clear hown2 hgrow2 hat2 hlt2
        go_wp2_with fail
        go_roundg (m - (t + 1))
        case measure => go_light; omega
        case rel => exact ⟨t + 1, _, by omega, rfl, rfl, by go_num, hid HS.out.1, hid HS.out.2⟩
    · have e : t = m := by omega
      subst e
      go_wp2_with fail
      go_ret
      exact ⟨_, rfl, (World.ownsRow.mono HO.out (by have h1 := HW3.out.size; have h2 := HEE.out; omega)), HB3.out⟩

/-- Values, of every layer of a right circuit, the inputs first. -/
theorem rvals_any (c : CQ) (g : Int) (b off n cap : Nat) (A : Nat → Option Addr) (C : Nat → Nat) (db doff N kc : Nat) (f : Nat → Int) (hn : c.layers.length = n) (hc : c.right) (hN : lenQ c 0 = N) (hf : Nums f) (k : Nat) (hk : k ≤ n) :
    ∀ (z : Int) (w : World), z = (k : Int) - 1 → CRow w (some ⟨b, off, none⟩) c.layers A C → Row w db doff N f →
    Calls Tryd.prog 19 #[.agg #[.int .i64 g, .slice (some ⟨b, off, none⟩) n cap], .slice (some ⟨db, doff, none⟩) N kc, .int .i64 z] w fun e w' => ∃ v, e = .returned v ∧ Own w' w.heap.size v (lenQ c k) (valsQ c f k) ∧ Below w.heap.size w w' := by
  have n4 : n ≤ 4 := by have := hc.few; omega
  have N16 := lenQ_rng hc 0 (Nat.zero_le _)
  have N0 : 0 < N := by omega
  induction k with
  | zero =>
    intro z w hz hr hi
    rw [show z = -1 from by omega, hN]
    exact rvals_zero g _ n cap db doff N kc f w (by omega) hi hf
  | succ k ih =>
    intro z w hz hr hi
    rw [show z = (k : Int) from by omega]
    obtain ⟨l, hl⟩ : ∃ l, c.layers[k]? = some l := ⟨c.layers[k]'(by omega), by simp⟩
    obtain ⟨b', off', eb, hcell⟩ := hr (by intro e; rw [e] at hn; simp at hn; omega)
    cases eb
    obtain ⟨y0, y1, y2, y3⟩ := hcell k l hl
    have mr := lenQ_rng hc (k + 1) (by omega)
    have nr := lenQ_rng hc k (by omega)
    refine rvals_step l g b off n cap (A k) (C k) (some ⟨db, doff, none⟩) N kc k (lenQ c k) (lenQ c (k + 1)) (valsQ c f k) (valsQ c f (k + 1)) w (by omega) n4 (lenQ_layer hc hl) mr.2 nr.2 (Nums_vals c f k) (vals_layer hl) ?_ y2 (hc.layer k l hl).2.2 ?_
    · rw [← lenQ_layer hc hl]; exact y1
    · intro W hb
      refine ih (by omega) ((k : Int) - 1) W rfl (hr.kept hb) ?_
      exact hi.kept hb (hi.lt N0)

end Go.Proofs.YtmjpcmeinlkfbaaDoor

/-
  Contracts of tallyref's Need and line, of right things; they make new rows and write nothing that was there.
-/
namespace Go.Proofs.YtmjpcmeinlkfbaaDoor
open Go.RowKit
set_option linter.unusedVariables false
attribute [local go_sem ↓] Go.wp_at_zero Go.wp_at_succ

set_option maxHeartbeats 2000000 in
set_option maxRecDepth 100000 in
theorem rneed_any (c : CQ) (g : Int) (b off n cap : Nat) (A : Nat → Option Addr) (C : Nat → Nat) (w : World) (hg : c.log = g) (hn : c.layers.length = n) (hr : CRow w (some ⟨b, off, none⟩) c.layers A C) (hc : c.right) :
    Calls Tryd.prog 11 #[.agg #[.int .i64 g, .slice (some ⟨b, off, none⟩) n cap]] w fun e w' => e = .returned (.int .i64 (needQ c : Int)) ∧ Below w.heap.size w w' := by
  have n4 : n ≤ 4 := by have := hc.few; omega
  have n1 : 1 ≤ n := by have := List.length_pos_iff.2 hc.some; omega
  obtain ⟨m, rfl⟩ : ∃ m, n = m + 1 := ⟨n - 1, by omega⟩
  obtain ⟨l, hl⟩ : ∃ l, c.layers[m]? = some l := ⟨c.layers[m]'(by omega), by simp⟩
  obtain ⟨lz, hlz⟩ : ∃ x : Nat, l.log = (x : Int) := ⟨l.log.toNat, by have := (hc.layer m l hl).1; omega⟩
  have lz4 : lz ≤ 4 := by have := (hc.layer m l hl).1; omega
  have HL0 : Hid ((partsQ c).lg 0 = lz) := hid (by
    show (belowQ c (c.layers.length - 0)).toNat = lz
    rw [hn, Nat.sub_zero, belowQ, hl]
    show l.log.toNat = lz
    rw [hlz, Int.toNat_natCast])
  have HNP := hid (needP_le hc)
  have HR := hid hr
  have HG := hid hg
  have HN := hid hn
  have HC := hid hc
  have HS0 := hid (StW.start w g (.slice (some ⟨b, off, none⟩) (m + 1) cap) 24)
  obtain ⟨b', off', eb, hcl⟩ := hr hc.some
  cases eb
  have y0 := (hcl m l hl).1
  have yb : b < w.heap.size := World.block_lt_of_cell? w _ y0
  rw [Nat.mul_comm 2 m, hlz] at y0
  have y0' : ∀ o, (w.alloc o).cell? ⟨b, off + m * 2, none⟩ = some (.int .i64 (lz : Int)) := fun o => by rw [World.cell?_alloc_old _ _ _ (Nat.ne_of_lt yb)]; exact y0
  have m0 : (0 : Int) ≤ (m : Int) := by omega
  have m1 : (m : Int) < (m : Int) + 1 := by omega
  clear hr hg hn hc hcl hl hlz y0 yb
  go_enter Tryd.func11, Tryd.ntmps11
  go_wp2_with fail
  clear y0' m0 m1
  obtain ⟨B, hB⟩ : ∃ B, w.heap.size = B := ⟨_, rfl⟩
  have HS1 : Hid (StW w (w.alloc (.cells #[.int .i64 g, .slice (some ⟨b, off, none⟩) (m + 1) cap] 24)) B g (.slice (some ⟨b, off, none⟩) (m + 1) cap)) := hid (by rw [← hB]; exact HS0.out)
  rw [hB]
  clear hB HS0
  generalize w.alloc (.cells #[.int .i64 g, .slice (some ⟨b, off, none⟩) (m + 1) cap] 24) = W1 at HS1 ⊢
  go_loopg [3, 4] (m + 1) (fun q s i wr => ∃ (t p : Nat), t ≤ m + 1 ∧ q = m + 1 - t ∧ s = .int .i64 (p : Int) ∧ i = .int .i64 (t : Int) ∧ p ≤ 4 + 9 * t ∧ Hid (p = lz + needP c t) ∧ Hid (StW w wr B g (.slice (some ⟨b, off, none⟩) (m + 1) cap)))
  case atStart => exact ⟨0, lz, by omega, rfl, rfl, rfl, by omega, hid rfl, HS1⟩
  case round =>
    clear HS1
    obtain ⟨t, p, ht, rfl, rfl, rfl, hp, HP, HS⟩ := hrel
    obtain ⟨z0, z1, zl⟩ := HS.out.box
    by_cases htl : t < m + 1
    · obtain ⟨bk, hbk, bk4⟩ := belowQ_rng HC.out t
      have HBE : Hid (∀ W, Below w.heap.size w W → Calls Tryd.prog 18 #[.agg #[.int .i64 g, .slice (some ⟨b, off, none⟩) (m + 1) cap], .int .i64 (t : Int)] W fun e w' => e = .returned (.int .i64 (bk : Int)) ∧ Below W.heap.size W w') := hid (fun W h => by rw [← hbk]; exact rbelow_any c g b off (m + 1) cap t A C W HG.out HN.out n4 (by omega) (HR.out.kept h))
      have HNX : Hid (p + 2 * bk + 1 = lz + needP c (t + 1)) := hid (by rw [HP.out, needP, hbk, Int.toNat_natCast]; omega)
      have t1 : (t : Int) < (m : Int) + 1 := by omega
      have iw1 : IntKind.i64.wrap ((bk : Int) + (bk : Int)) = (bk : Int) + (bk : Int) := IntWalk.i64_in _ (by omega)
      have iw2 : IntKind.i64.wrap ((bk : Int) + (bk : Int) + 1) = (bk : Int) + (bk : Int) + 1 := IntWalk.i64_in _ (by omega)
      have iw3 : IntKind.i64.wrap ((p : Int) + ((bk : Int) + (bk : Int) + 1)) = (p : Int) + ((bk : Int) + (bk : Int) + 1) := IntWalk.i64_in _ (by omega)
      clear hbk
      have mark : Hid True := hid trivial
      go_wp2_with fail
      go_region_held3 (fun W => W.cell? ⟨B, 0, none⟩ = some (.int .i64 g) ∧ W.cell? ⟨B, 1, none⟩ = some (.slice (some ⟨b, off, none⟩) (m + 1) cap)) (first | assumption | exact ⟨z0, z1⟩ | exact zx | exact zy) (first
        | (go_at_call 18; first | (clear mark; refine (HBE.out _ HS.out.bel.drew).mono ?_; rintro e w2 ⟨rfl, hb⟩; have hbA : Below wr.heap.size wr w2 := (Below.refl _ wr).drew.trans hb; have HSX := hid (HS.out.next hbA); have zx : w2.cell? ⟨B, 0, none⟩ = some (.int .i64 g) ∧ w2.cell? ⟨B, 1, none⟩ = some (.slice (some ⟨b, off, none⟩) (m + 1) cap) := ⟨HSX.out.box.c0, HSX.out.box.c1⟩; clear hb hbA) | (refine (HBE.out _ HSX.out.bel).mono ?_; rintro e w3 ⟨rfl, hb⟩; have HSY := hid (HSX.out.next hb); have zy : w3.cell? ⟨B, 0, none⟩ = some (.int .i64 g) ∧ w3.cell? ⟨B, 1, none⟩ = some (.slice (some ⟨b, off, none⟩) (m + 1) cap) := ⟨HSY.out.box.c0, HSY.out.box.c1⟩; clear hb)))
      clear z0 z1 zl zx zy HSX iw1 iw2 iw3
      go_wp2_with fail
      go_roundg (m + 1 - (t + 1))
      case measure => go_light; omega
      case rel => exact ⟨t + 1, p + 2 * bk + 1, by omega, rfl, by go_num, by go_num, by omega, HNX, HSY⟩
    · have e : t = m + 1 := by omega
      have HFIN : Hid ((p : Int) = (needQ c : Int)) := hid (by rw [need_is, HL0.out, HN.out, ← e, ← HP.out])
      have t1 : ¬ ((t : Int) < (m : Int) + 1) := by omega
      clear e
      go_wp2_with fail
      go_ret
      exact ⟨by rw [HFIN.out]; rfl, HS.out.bel⟩

set_option maxHeartbeats 2000000 in
set_option maxRecDepth 100000 in
theorem rgline_any (ax ay : Option Addr) (n cx cy : Nat) (x y : Nat → Int) (s : Int) (w : World) (hn : n ≤ 1000) (px : PRow w ax n x) (py : PRow w ay n y) (vx : Nums x) (vy : Nums y) (s0 : 0 ≤ s) (s1 : s ≤ 18446744073709551615) :
    Calls Tryd.prog 42 #[.slice ax n cx, .slice ay n cy, .int .u64 s] w fun e w' => ∃ v, e = .returned v ∧ Own w' w.heap.size v n (linQ x y s) ∧ Below w.heap.size w w' := by
  obtain ⟨i0, hi, hz0, hz1, hz2⟩ := info_parts Tryd.infoO
  have HI := hid (And.intro hi (And.intro hz0 (And.intro hz1 hz2)))
  clear hi hz0 hz1 hz2
  have HPX := hid px
  have HPY := hid py
  have HV := hid (And.intro vx vy)
  clear px py vx vy
  go_enter Tryd.func42, Tryd.ntmps42
  go_wp2_with fail
  obtain ⟨E, hE⟩ : ∃ E, w.heap.size = E := ⟨_, rfl⟩
  have HEE := hid hE
  clear hE
  go_loopg [7, 8] n (fun q o i wr => ∃ (t : Nat) (v : Value), t ≤ n ∧ q = n - t ∧ o = v ∧ i = .int .i64 (t : Int) ∧ Hid (Own wr E v t (linQ x y s)) ∧ Hid (Below E w wr))
  case atStart => exact ⟨0, _, by omega, rfl, rfl, rfl, hid (Own.nil _ _ _), hid (Below.refl _ _)⟩
  case round =>
    obtain ⟨t, v, ht, rfl, hv, rfl, HO, HB⟩ := hrel
    obtain rfl := hv.symm
    have hs : E ≤ wr.heap.size := by have h1 := HB.out.size; have h2 := HEE.out; omega
    by_cases htl : t < n
    · have hbw : Below w.heap.size w wr := by rw [HEE.out]; exact HB.out
      obtain ⟨bx, ox, rfl, hrx⟩ := HPX.out (by omega)
      obtain ⟨by', oy, rfl, hry⟩ := HPY.out (by omega)
      have lx : bx < E := by rw [← HEE.out]; exact hrx.lt (by omega)
      have ly : by' < E := by rw [← HEE.out]; exact hry.lt (by omega)
      have cx1 := (hrx.kept HB.out lx) t htl
      have cy1 := (hry.kept HB.out ly) t htl
      obtain ⟨a, ha⟩ : ∃ a, x t = a := ⟨_, rfl⟩
      obtain ⟨d, hd⟩ : ∃ a, y t = a := ⟨_, rfl⟩
      obtain ⟨a0, a1⟩ := HV.out.1 t
      obtain ⟨d0, d1⟩ := HV.out.2 t
      rw [ha] at cx1 a0 a1
      rw [hd] at cy1 d0 d1
      obtain ⟨z, hz⟩ : ∃ z, addQ a (mulQ s (subQ d a)) = z := ⟨_, rfl⟩
      have HZ : Hid (linQ x y s t = z) := hid (by rw [linQ, ha, hd, hz])
      have HSU := hid (fun W => rsub_any d a W (by omega) (by omega) (by omega) (by omega))
      obtain ⟨q1, q2⟩ := subQ_rng d a
      obtain ⟨q3, q4⟩ := mulQ_rng s (subQ d a)
      have HAD := hid (fun W => radd_any a (mulQ s (subQ d a)) W (by omega) (by omega) (by omega) (by omega))
      have HMU := hid (fun W => rmul_any s (subQ d a) W (by omega) (by omega) (by omega) (by omega))
      rw [hz] at HAD
      clear ha hd hz hrx hry hbw
      have t0 : (0 : Int) ≤ (t : Int) := by omega
      have t1 : (t : Int) < (n : Int) := by omega
      have HNE : Hid (some bx ≠ v.ownBlock ∧ some by' ≠ v.ownBlock) := hid ⟨fun e => by have := (World.ownsRow.lt HO.out bx e.symm).1; omega, fun e => by have := (World.ownsRow.lt HO.out by' e.symm).1; omega⟩
      have sx : bx < wr.heap.size := by omega
      have sy : by' < wr.heap.size := by omega
      have HS4 := hid (And.intro cx1 cy1)
      have HK : Hid (∀ o, (wr.alloc o).cell? ⟨bx, ox + t, none⟩ = some (.int .u64 a) ∧ (wr.alloc o).cell? ⟨by', oy + t, none⟩ = some (.int .u64 d)) := hid fun o => ⟨by rw [World.cell?_alloc_old _ _ _ (Nat.ne_of_lt sx)]; exact HS4.out.1, by rw [World.cell?_alloc_old _ _ _ (Nat.ne_of_lt sy)]; exact HS4.out.2⟩
      go_wp2_with fail
      go_region_held3 (fun w' => w'.cell? ⟨bx, ox + t, none⟩ = some (.int .u64 a) ∧ w'.cell? ⟨by', oy + t, none⟩ = some (.int .u64 d)) (first | assumption | exact HS4.out | exact HK.out _ | exact hk3) (first
        | (go_at_call 78; refine (HSU.out _).mono ?_; rintro e w' ⟨rfl, hw⟩; obtain rfl := hw.symm)
        | (go_at_call 53; refine (HMU.out _).mono ?_; rintro e w' ⟨rfl, hw⟩; obtain rfl := hw.symm)
        | (go_at_call 39; refine (HAD.out _).mono ?_; rintro e w' ⟨rfl, hw⟩; obtain rfl := hw.symm)
        | (refine step_append_lies _ (by rfl) _ _ 25 (by rfl) E 45 i0 (.int .u64 0) 1 8 Tryd.underlying25 HI.out.1 HI.out.2.1 HI.out.2.2.1 HI.out.2.2.2 rfl (by decide) v t (cellsOf t (linQ x y s)) (by rfl) (World.ownsRow.alloc HO.out _) ⟨wr.heap.size, 0, none⟩ 1 1 [.int .u64 z] (by rfl) (by rfl) (vnews wr z _) (vone z) (by omega) (by unfold maxLen; omega) (by omega) (by simp; omega) (wr.heap.size + 1) (by simp) ?_; intro g2' c2' w6 hown2 hgrow2 hat2 hlt2; have hk3 : w6.cell? ⟨bx, ox + t, none⟩ = some (.int .u64 a) ∧ w6.cell? ⟨by', oy + t, none⟩ = some (.int .u64 d) := ⟨grown_cell hgrow2 HNE.out.1 sx HS4.out.1, grown_cell hgrow2 HNE.out.2 sy HS4.out.2⟩))
      have HS := hid (vsnoc HB.out hs HO.out hown2 (grown_undrew hgrow2) HZ.out)
      clear hown2 hgrow2 hat2 hlt2
      go_wp2_with fail
      go_roundg (n - (t + 1))
      case measure => go_light; omega
      case rel => exact ⟨t + 1, _, by omega, rfl, rfl, by go_num, hid HS.out.1, hid HS.out.2⟩
    · have e : t = n := by omega
      subst e
      go_wp2_with fail
      go_ret
      exact ⟨_, rfl, by rw [HEE.out]; exact HO.out, by rw [HEE.out]; exact HB.out⟩

end Go.Proofs.YtmjpcmeinlkfbaaDoor

/-
  A contract of tallyref's Shaped, for every proof and right circuits; it makes new blocks and writes nothing that was there.
-/
namespace Go.Proofs.YtmjpcmeinlkfbaaDoor
open Go.RowKit
set_option linter.unusedVariables false
attribute [local go_sem ↓] Go.wp_at_zero Go.wp_at_succ

/-- What holds of the world all along: the circuit's box, the proof's box, and that nothing was written. -/
structure StP (w W : World) (B : Nat) (g : Int) (v : Value) (Bp : Nat) (vp : Value) : Prop where
  st : StW w W B g v
  pc : W.cell? ⟨Bp, 0, none⟩ = some vp
theorem StP.next {w W W' : World} {B : Nat} {g : Int} {v : Value} {Bp : Nat} {vp : Value} (h : StP w W B g v Bp vp) (hb : Below W.heap.size W W') : StP w W' B g v Bp vp := ⟨h.st.next hb, (hb.cell (World.block_lt_of_cell? W _ h.pc)).trans h.pc⟩
theorem StP.start (w : World) (g : Int) (v vp : Value) (t t' : TypeId) : StP w ((w.alloc (.cells #[.int .i64 g, v] t)).alloc (.cells #[vp] t')) w.heap.size g v (w.heap.size + 1) vp := by
  have h1 := StW.start w g v t
  have hal := (Below.refl (w.alloc (.cells #[.int .i64 g, v] t)).heap.size (w.alloc (.cells #[.int .i64 g, v] t))).alloc (Nat.le_refl _) (.cells #[vp] t')
  refine ⟨h1.next hal, ?_⟩
  have e : (w.alloc (.cells #[.int .i64 g, v] t)).heap.size = w.heap.size + 1 := by simp
  rw [← e, World.cell?_alloc_new]; rfl
/-- Part j is as it must be. -/
def partOk (c : CQ) (p : PQ) (j : Nat) : Prop := p.rn j = 2 * (partsQ c).lg (j + 1) ∧ p.ln j = (partsQ c).lg (j + 1) + 1 ∧ ∀ i, i < p.rn j → p.rl j i = 3
theorem lg_next {c : CQ} {n t i bk : Nat} (hn : c.layers.length = n) (hi : i + t + 1 = n) (hb : belowQ c i = (bk : Int)) : (partsQ c).lg (t + 1) = bk := by
  show (belowQ c (c.layers.length - (t + 1))).toNat = bk
  rw [hn, show n - (t + 1) = i from by omega, hb, Int.toNat_natCast]


end Go.Proofs.YtmjpcmeinlkfbaaDoor

/-
  Contracts of tallyref's Wired and Step, of right things; they make new blocks and write nothing that was there.
-/
namespace Go.Proofs.YtmjpcmeinlkfbaaDoor
open Go.RowKit
set_option linter.unusedVariables false
attribute [local go_sem ↓] Go.wp_at_zero Go.wp_at_succ

theorem reqp_any (ao : Option Addr) (n cap : Nat) (g : Nat → Int) (at0 : Nat) (w : World) (hn : n ≤ 1000) (hp : PRow w ao n g) (hv : Nums g) (hat : at0 ≤ 100000) :
    Calls Tryd.prog 77 #[.slice ao n cap, .int .i64 (at0 : Int)] w fun e w' => e = .returned (.int .u64 (ofK (eqK (pK g) n at0))) ∧ w' = w := by
  by_cases h0 : n = 0
  · subst h0
    exact req_zero ao cap at0 w hat
  · obtain ⟨b, off, rfl, hr⟩ := hp (by omega)
    exact req_any b off n cap g at0 w hn hr hv hat

set_option maxHeartbeats 2000000 in
set_option maxRecDepth 100000 in
theorem rwired_ok (l : LQ) (g : Int) (b off n cap k : Nat) (ga : Option Addr) (gc : Nat) (mul : Bool) (az ax ay : Option Addr) (nz cz nx cx ny cy N M : Nat) (z x y : Nat → Int) (w : World) (hk : k < n) (n4 : n ≤ 4)
    (hN : N = 2 ^ nz) (N16 : N ≤ 16) (M16 : M ≤ 16) (z4 : nz ≤ 4) (x4 : nx ≤ 4) (hxy : ny = nx) (hlen : l.gates.length = N) (hgo : ∀ q ∈ l.gates, gateOk (M : Int) q)
    (hc : w.cell? ⟨b, off + 2 * k + 1, none⟩ = some (.slice ga N gc)) (hgr : GRow w ga l.gates)
    (pz : PRow w az nz z) (px : PRow w ax nx x) (py : PRow w ay ny y) (vz : Nums z) (vx : Nums x) (vy : Nums y) :
    Calls Tryd.prog 76 #[.agg #[.int .i64 g, .slice (some ⟨b, off, none⟩) n cap], .int .i64 (k : Int), .bool mul, .slice az nz cz, .slice ax nx cx, .slice ay ny cy] w fun e w' => e = .returned (.int .u64 (wirQ mul l.gates nz nx z x y)) ∧ Below w.heap.size w w' := by
  subst hxy
  rw [Nat.mul_comm 2 k] at hc
  have bl : b < w.heap.size := World.block_lt_of_cell? w _ hc
  have HC := hid (And.intro hc bl)
  have HGR := hid hgr
  have HLEN := hid hlen
  have HGO := hid hgo
  have HNN := hid hN
  have HPZ := hid pz
  have HPX := hid px
  have HPY := hid py
  have HV := hid (And.intro vz (And.intro vx vy))
  have k0 : (0 : Int) ≤ (k : Int) := by omega
  have k1 : (k : Int) < (n : Int) := by omega
  clear hc bl hgr hlen hgo hN pz px py vz vx vy
  go_enter Tryd.func76, Tryd.ntmps76
  go_wp2_with fail
  have HW0 := hid ((Below.refl w.heap.size w).alloc (Nat.le_refl _) (.cells #[.int .i64 g, .slice (some ⟨b, off, none⟩) n cap] 24))
  have HX0 := hid (Box2.new w (.int .i64 g) (.slice (some ⟨b, off, none⟩) n cap) 24)
  obtain ⟨B, hB⟩ : ∃ B, w.heap.size = B := ⟨_, rfl⟩
  rw [hB] at HX0 ⊢
  clear hB
  generalize w.alloc (.cells #[.int .i64 g, .slice (some ⟨b, off, none⟩) n cap] 24) = W0 at HW0 HX0 ⊢
  have HC0 := hid (Below.refl W0.heap.size W0)
  go_loopg [13, 14] N (fun q v i wr => ∃ (t : Nat) (p : Int), t ≤ N ∧ q = N - t ∧ v = .int .u64 p ∧ i = .int .i64 (t : Int) ∧ 0 ≤ p ∧ p ≤ 2305843009213693950 ∧ Hid (p = ofK (wirP mul l.gates nz ny z x y t)) ∧ Hid (Below W0.heap.size W0 wr))
  case atStart => exact ⟨0, 0, by omega, rfl, rfl, rfl, by omega, by omega, hid rfl, HC0⟩
  case round =>
    clear HC0
    obtain ⟨t, p, ht, rfl, rfl, rfl, p0, p1, HP, HBW⟩ := hrel
    obtain ⟨x0, x1, xl⟩ := HX0.out.kept HBW.out
    have HB3 := hid (HW0.out.trans (HBW.out.mono HW0.out.size))
    have y1 : wr.cell? ⟨b, off + k * 2 + 1, none⟩ = some (.slice ga N gc) := (HB3.out.cell HC.out.2).trans HC.out.1
    by_cases htl : t < N
    · obtain ⟨q, hq⟩ : ∃ q, l.gates[t]? = some q := ⟨l.gates[t]'(by rw [HLEN.out]; exact htl), by simp⟩
      obtain ⟨gb, go, rfl, hgc⟩ := HGR.out.kept HB3.out (by intro e; have := HLEN.out; rw [e] at this; simp at this; omega)
      obtain ⟨q0, q1, q2⟩ := hgc t q hq
      obtain ⟨⟨a0, a1⟩, b0, b1⟩ := HGO.out q (List.mem_of_getElem? hq)
      rw [Nat.mul_comm 3 t] at q0 q1 q2
      obtain ⟨qm, hqm⟩ : ∃ v, q.mul = v := ⟨_, rfl⟩
      obtain ⟨ia, hia⟩ : ∃ v : Nat, q.a = (v : Int) := ⟨q.a.toNat, by omega⟩
      obtain ⟨ib, hib⟩ : ∃ v : Nat, q.b = (v : Int) := ⟨q.b.toNat, by omega⟩
      rw [hqm] at q0
      rw [hia] at q1 a1
      rw [hib] at q2 b1
      have HQ := hid (And.intro hq (And.intro hqm (And.intro hia hib)))
      clear hgc hq hqm hia hib a0 b0
      have t0 : (0 : Int) ≤ (t : Int) := by omega
      have t1 : (t : Int) < (N : Int) := by omega
      have hal := (Below.refl wr.heap.size wr).alloc (Nat.le_refl _) (.cells #[.bool qm, .int .i64 (ia : Int), .int .i64 (ib : Int)] 69)
      have HBA := hid (HBW.out.trans (hal.mono HBW.out.size))
      by_cases hm : qm = mul
      · have em : (qm == mul) = true := by rw [hm]; simp
        obtain ⟨ez, hez⟩ : ∃ v, ofK (eqK (pK z) nz t) = v := ⟨_, rfl⟩
        obtain ⟨ex, hex⟩ : ∃ v, ofK (eqK (pK x) ny ia) = v := ⟨_, rfl⟩
        obtain ⟨ey, hey⟩ : ∃ v, ofK (eqK (pK y) ny ib) = v := ⟨_, rfl⟩
        have HQZ := hid (fun m => reqp_any az nz cz z t ((wr.alloc (.cells #[.bool qm, .int .i64 (ia : Int), .int .i64 (ib : Int)] 69)).drewN m) (by omega) (show PRow (wr.alloc (.cells #[.bool qm, .int .i64 (ia : Int), .int .i64 (ib : Int)] 69)) az nz z from (HPZ.out.kept HB3.out).kept hal) HV.out.1 (by omega))
        have HQX := hid (fun m => reqp_any ax ny cx x ia ((wr.alloc (.cells #[.bool qm, .int .i64 (ia : Int), .int .i64 (ib : Int)] 69)).drewN m) (by omega) (show PRow (wr.alloc (.cells #[.bool qm, .int .i64 (ia : Int), .int .i64 (ib : Int)] 69)) ax ny x from (HPX.out.kept HB3.out).kept hal) HV.out.2.1 (by omega))
        have HQY := hid (fun m => reqp_any ay ny cy y ib ((wr.alloc (.cells #[.bool qm, .int .i64 (ia : Int), .int .i64 (ib : Int)] 69)).drewN m) (by omega) (show PRow (wr.alloc (.cells #[.bool qm, .int .i64 (ia : Int), .int .i64 (ib : Int)] 69)) ay ny y from (HPY.out.kept HB3.out).kept hal) HV.out.2.2 (by omega))
        rw [hez] at HQZ
        rw [hex] at HQX
        rw [hey] at HQY
        have ez0 : 0 ≤ ez ∧ ez ≤ 18446744073709551615 := by rw [← hez]; exact ofK_u64 _
        have ex0 : 0 ≤ ex ∧ ex ≤ 18446744073709551615 := by rw [← hex]; exact ofK_u64 _
        have ey0 : 0 ≤ ey ∧ ey ≤ 18446744073709551615 := by rw [← hey]; exact ofK_u64 _
        have HNX := hid (wir_hit HQ.out.1 (HQ.out.2.1.trans hm) HQ.out.2.2.1 HQ.out.2.2.2 HP.out hez.symm hex.symm hey.symm).2
        clear hez hex hey hm
        obtain ⟨ez0, ez1⟩ := ez0
        obtain ⟨ex0, ex1⟩ := ex0
        obtain ⟨ey0, ey1⟩ := ey0
        obtain ⟨mw0, mw1⟩ := mulQ_rng ez ex
        obtain ⟨mv0, mv1⟩ := mulQ_rng (mulQ ez ex) ey
        obtain ⟨ma0, ma1⟩ := addQ_rng p (mulQ (mulQ ez ex) ey)
        clear hal
        go_wp2_with fail
        go_quiet (first | (go_at_call 53; exact Calls.quiet_of_same (rmul_any _ _ _ (by omega) (by omega) (by omega) (by omega))) | (go_at_call 39; exact Calls.quiet_of_same (radd_any _ _ _ (by omega) (by omega) (by omega) (by omega))) | (go_at_call 77; first | with_reducible exact Calls.quiet_of_same (HQZ.out _) | with_reducible exact Calls.quiet_of_same (HQX.out _) | with_reducible exact Calls.quiet_of_same (HQY.out _)))
        go_wp2_with fail
        go_roundg (N - (t + 1))
        case measure => go_light; omega
        case rel => exact ⟨t + 1, _, by omega, rfl, rfl, by go_num, ma0, ma1, HNX, hid ⟨HBA.out.os, HBA.out.tape, HBA.out.output, HBA.out.size, HBA.out.block⟩⟩
      · have em : (qm == mul) = false := by simp; exact hm
        have HNX := hid (wir_miss (l := nz) (k := ny) (z := z) (x := x) (y := y) HQ.out.1 (fun e => hm (HQ.out.2.1.symm.trans e)))
        go_wp2_with fail
        go_roundg (N - (t + 1))
        case measure => go_light; omega
        case rel => exact ⟨t + 1, p, by omega, rfl, rfl, by go_num, p0, p1, hid (by rw [HNX.out]; exact HP.out), HBA⟩
    · have e : t = N := by omega
      subst e
      go_wp2_with fail
      go_ret
      exact ⟨ret_u64 (by rw [HP.out, HNN.out]; rfl), HB3.out⟩

end Go.Proofs.YtmjpcmeinlkfbaaDoor

/-
  A contract of tallyref's Step, of right things; it makes new blocks and writes nothing that was there.
-/
namespace Go.Proofs.YtmjpcmeinlkfbaaDoor
open Go.RowKit
set_option linter.unusedVariables false
attribute [local go_sem ↓] Go.wp_at_zero Go.wp_at_succ

/-- Layer k is asked at three points: all is right. -/
structure Ask (w : World) (l : LQ) (b off n k : Nat) (ga : Option Addr) (gc : Nat) (az ax ay : Option Addr) (nz nx ny N M : Nat) (z x y : Nat → Int) : Prop where
  hk : k < n
  n4 : n ≤ 4
  hN : N = 2 ^ nz
  N16 : N ≤ 16
  M16 : M ≤ 16
  z4 : nz ≤ 4
  x4 : nx ≤ 4
  hxy : ny = nx
  hlen : l.gates.length = N
  hgo : ∀ q ∈ l.gates, gateOk (M : Int) q
  hc : w.cell? ⟨b, off + 2 * k + 1, none⟩ = some (.slice ga N gc)
  hgr : GRow w ga l.gates
  pz : PRow w az nz z
  px : PRow w ax nx x
  py : PRow w ay ny y
  vz : Nums z
  vx : Nums x
  vy : Nums y
theorem Ask.next {w w' : World} {l : LQ} {b off n k : Nat} {ga : Option Addr} {gc : Nat} {az ax ay : Option Addr} {nz nx ny N M : Nat} {z x y : Nat → Int} (h : Ask w l b off n k ga gc az ax ay nz nx ny N M z x y) (hb : Below w.heap.size w w') : Ask w' l b off n k ga gc az ax ay nz nx ny N M z x y :=
  { h with hc := (hb.cell (World.block_lt_of_cell? w _ h.hc)).trans h.hc, hgr := h.hgr.kept hb, pz := h.pz.kept hb, px := h.px.kept hb, py := h.py.kept hb }
theorem rwired_ask {w : World} {l : LQ} {b off n k : Nat} {ga : Option Addr} {gc : Nat} {az ax ay : Option Addr} {nz nx ny N M : Nat} {z x y : Nat → Int} (h : Ask w l b off n k ga gc az ax ay nz nx ny N M z x y) (g : Int) (cap : Nat) (mul : Bool) (cz cx cy : Nat) :
    Calls Tryd.prog 76 #[.agg #[.int .i64 g, .slice (some ⟨b, off, none⟩) n cap], .int .i64 (k : Int), .bool mul, .slice az nz cz, .slice ax nx cx, .slice ay ny cy] w fun e w' => e = .returned (.int .u64 (wirQ mul l.gates nz nx z x y)) ∧ Below w.heap.size w w' :=
  rwired_ok l g b off n cap k ga gc mul az ax ay nz cz nx cx ny cy N M z x y w h.hk h.n4 h.hN h.N16 h.M16 h.z4 h.x4 h.hxy h.hlen h.hgo h.hc h.hgr h.pz h.px h.py h.vz h.vx h.vy

set_option maxHeartbeats 2000000 in
set_option maxRecDepth 100000 in
theorem rstep_ask {w : World} {l : LQ} {b off n k : Nat} {ga : Option Addr} {gc : Nat} {az ax ay : Option Addr} {nz nx ny N M : Nat} {z x y : Nat → Int} (h : Ask w l b off n k ga gc az ax ay nz nx ny N M z x y) (g : Int) (cap : Nat) (cz cx cy : Nat) (ux uy : Int) (u0 : 0 ≤ ux) (u1 : ux ≤ 18446744073709551615) (u2 : 0 ≤ uy) (u3 : uy ≤ 18446744073709551615) :
    Calls Tryd.prog 40 #[.agg #[.int .i64 g, .slice (some ⟨b, off, none⟩) n cap], .int .i64 (k : Int), .slice az nz cz, .slice ax nx cx, .slice ay ny cy, .int .u64 ux, .int .u64 uy] w fun e w' => e = .returned (.int .u64 (wstQ l.gates nz nx z x y ux uy)) ∧ Below w.heap.size w w' := by
  have HA := hid h
  have HS0 := hid (StW.start w g (.slice (some ⟨b, off, none⟩) n cap) 24)
  clear h
  go_enter Tryd.func40, Tryd.ntmps40
  go_wp2_with fail
  obtain ⟨B, hB⟩ : ∃ B, w.heap.size = B := ⟨_, rfl⟩
  have HS1 : Hid (StW w (w.alloc (.cells #[.int .i64 g, .slice (some ⟨b, off, none⟩) n cap] 24)) B g (.slice (some ⟨b, off, none⟩) n cap)) := hid (by rw [← hB]; exact HS0.out)
  rw [hB]
  clear hB HS0
  generalize w.alloc (.cells #[.int .i64 g, .slice (some ⟨b, off, none⟩) n cap] 24) = W1 at HS1 ⊢
  obtain ⟨va, hva⟩ : ∃ v, wirQ false l.gates nz nx z x y = v := ⟨_, rfl⟩
  obtain ⟨vb, hvb⟩ : ∃ v, wirQ true l.gates nz nx z x y = v := ⟨_, rfl⟩
  have HWA := hid (fun W (h : Below w.heap.size w W) => rwired_ask (HA.out.next h) g cap false cz cx cy)
  have HWB := hid (fun W (h : Below w.heap.size w W) => rwired_ask (HA.out.next h) g cap true cz cx cy)
  obtain ⟨a0, a1⟩ := wirQ_rng false l.gates nz nx z x y
  obtain ⟨b0, b1⟩ := wirQ_rng true l.gates nz nx z x y
  have HST := hid (wst_of l.gates nz nx z x y ux uy)
  rw [hva] at HWA a0 a1
  rw [hvb] at HWB b0 b1
  rw [hva, hvb] at HST
  clear hva hvb
  obtain ⟨c0, c1⟩ := addQ_rng ux uy
  obtain ⟨d0, d1⟩ := mulQ_rng ux uy
  obtain ⟨e0, e1⟩ := mulQ_rng va (addQ ux uy)
  obtain ⟨f0, f1⟩ := mulQ_rng vb (mulQ ux uy)
  obtain ⟨z0, z1, zl⟩ := HS1.out.box
  have mark : Hid True := hid trivial
  go_region_held3 (fun W => W.cell? ⟨B, 0, none⟩ = some (.int .i64 g) ∧ W.cell? ⟨B, 1, none⟩ = some (.slice (some ⟨b, off, none⟩) n cap)) (first | assumption | exact ⟨z0, z1⟩ | exact zx | exact zy) (first
    | (go_at_call 39; refine (radd_any _ _ _ (by omega) (by omega) (by omega) (by omega)).mono ?_; rintro e w' ⟨rfl, hw⟩; obtain rfl := hw.symm)
    | (go_at_call 53; refine (rmul_any _ _ _ (by omega) (by omega) (by omega) (by omega)).mono ?_; rintro e w' ⟨rfl, hw⟩; obtain rfl := hw.symm)
    | (go_at_call 76; first | (clear mark; refine (HWA.out _ HS1.out.bel.drew).mono ?_; rintro e w2 ⟨rfl, hb⟩; have hbA : Below W1.heap.size W1 w2 := (Below.refl _ W1).drew.trans hb; have HSX := hid (HS1.out.next hbA); have zx : w2.cell? ⟨B, 0, none⟩ = some (.int .i64 g) ∧ w2.cell? ⟨B, 1, none⟩ = some (.slice (some ⟨b, off, none⟩) n cap) := ⟨HSX.out.box.c0, HSX.out.box.c1⟩; clear hb hbA) | (refine (HWB.out _ HSX.out.bel).mono ?_; rintro e w3 ⟨rfl, hb⟩; have HSY := hid (HSX.out.next hb); have zy : w3.cell? ⟨B, 0, none⟩ = some (.int .i64 g) ∧ w3.cell? ⟨B, 1, none⟩ = some (.slice (some ⟨b, off, none⟩) n cap) := ⟨HSY.out.box.c0, HSY.out.box.c1⟩; clear hb)))
  go_wp2_with fail
  go_ret
  exact ⟨ret_u64 HST.out, HSY.out.bel⟩

end Go.Proofs.YtmjpcmeinlkfbaaDoor
