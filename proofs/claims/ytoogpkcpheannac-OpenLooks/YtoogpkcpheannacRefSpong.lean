/-
  Contracts of tallyref's Sponge: mix, for every three numbers; it turns the sponge's own block, makes new ones, and writes nothing else that was there.
-/
import Derived.Test.YtoogpkcpheannacChecked
import Derived.Test.YtoogpkcpheannacSpong
import Derived.Test.YtoogpkcpheannacOwn
import Derived.Test.YtoogpkcpheannacRefA
import Derived.Test.YtoogpkcpheannacRefN
import Derived.WalkKit
import Derived.Deep.LoopGhost
import Derived.Deep.Light
import Derived.Deep.OwnRows
import Derived.Deep.DrawnRows
import Derived.StillTailTactics
namespace Go.Proofs.Ytoogpkcpheannac
open Go.RowKit
set_option linter.unusedVariables false
attribute [local go_sem ↓] Go.wp_at_zero Go.wp_at_succ

theorem Try.mixedS : Try.prog.follows .mixedOrders = true := by kernel_rfl
theorem Turned.new {b : Nat} {w w' : World} (h : Turned b w w') {c : Nat} (hc : w.heap.size ≤ c) (p : Nat) (u : Value) : Turned b w (w'.setCell ⟨c, p, none⟩ u) :=
  ⟨h.os, h.tape, h.output, by rw [World.size_setCell]; exact h.size, fun k hk hb => by rw [Below.heap_setCell _ _ _ _ (by show k ≠ c; omega)]; exact h.block k hk hb⟩
theorem Turned.alloc {b : Nat} {w w' : World} (h : Turned b w w') (x : Obj) : Turned b w (w'.alloc x) := h.trans (Turned.of_below ((Below.refl _ w').alloc (Nat.le_refl _) x))
theorem add_num (g : Nat → K) (k i : Nat) : addQ (numsK g k) ((i * (k + 1) : Nat) : Int) = ofK (g k + kn (i * (k + 1))) := by unfold numsK; rw [addQ_ofK, kk_ofK]; rfl
theorem sq_step (a : K) (i : Nat) (y : Int) (hy : y = ofK (sqK a i)) : mulQ y y = ofK (sqK a (i + 1)) := by rw [mulQ_ofK, hy, kk_ofK]; rfl
theorem p17_step (a : K) (x y : Int) (hx : x = ofK a) (hy : y = ofK (sqK a 4)) : mulQ y x = ofK (p17 a) := by rw [mulQ_ofK, hx, hy, kk_ofK, kk_ofK]; rfl
/-- What holds in a turn: the sponge's numbers, and the array beside it. -/
structure Mx (w W : World) (b : Nat) (f : Nat → Int) (tb : Nat) (h : Nat → Int) : Prop where
  t : Turned b w W
  r : Row W b 0 3 f
  f : Free W b 0 3
  tr : Row W tb 0 3 h
  tf : Free W tb 0 3
theorem Mx.putT {w W : World} {b tb : Nat} {f h : Nat → Int} (m : Mx w W b f tb h) (hn : w.heap.size ≤ tb) (hne : b ≠ tb) (k : Nat) (hk : k < 3) (x : Int) : Mx w (W.setCell ⟨tb, k, none⟩ (.int .u64 x)) b f tb (fun j => if j = k then x else h j) := by
  have hs := m.tr.store k x hk
  rw [Nat.zero_add] at hs
  have hW : Wrote tb k 1 W (W.setCell ⟨tb, k, none⟩ (.int .u64 x)) := (Wrote.refl _ _ _ _).store (Nat.le_refl _) (by omega) _
  exact ⟨m.t.new hn _ _, m.r.other hW hne, fun j hj => by rw [World.frozen?_setCell]; exact m.f j hj, hs, fun j hj => by rw [World.frozen?_setCell]; exact m.tf j hj⟩
theorem Mx.putS {w W : World} {b tb : Nat} {f h : Nat → Int} (m : Mx w W b f tb h) (hne : b ≠ tb) (k : Nat) (hk : k < 3) (x : Int) : Mx w (W.setCell ⟨b, k, none⟩ (.int .u64 x)) b (fun j => if j = k then x else f j) tb h := by
  have hs := m.r.store k x hk
  rw [Nat.zero_add] at hs
  have hW : Wrote b k 1 W (W.setCell ⟨b, k, none⟩ (.int .u64 x)) := (Wrote.refl _ _ _ _).store (Nat.le_refl _) (by omega) _
  exact ⟨m.t.setCell _ _, hs, fun j hj => by rw [World.frozen?_setCell]; exact m.f j hj, m.tr.other hW (Ne.symm hne), fun j hj => by rw [World.frozen?_setCell]; exact m.tf j hj⟩
theorem Mx.congr {w W : World} {b tb : Nat} {f h f' h' : Nat → Int} (m : Mx w W b f tb h) (e1 : ∀ j, j < 3 → f j = f' j) (e2 : ∀ j, j < 3 → h j = h' j) : Mx w W b f' tb h' := ⟨m.t, m.r.congr e1, m.f, m.tr.congr e2, m.tf⟩
theorem Mx.drew {w W : World} {b tb : Nat} {f h : Nat → Int} (m : Mx w W b f tb h) : Mx w W.drew b f tb h := ⟨m.t.drew, m.r, m.f, m.tr, m.tf⟩
theorem Mx.start {w W : World} {b : Nat} {f : Nat → Int} (ht : Turned b w W) (hr : Row W b 0 3 f) (hf : Free W b 0 3) (t : TypeId) : Mx w (W.alloc (.cells #[.int .u64 0, .int .u64 0, .int .u64 0] t)) b f W.heap.size (fun _ => 0) := by
  have hb : Below W.heap.size W (W.alloc (.cells #[.int .u64 0, .int .u64 0, .int .u64 0] t)) := (Below.refl _ W).alloc (Nat.le_refl _) _
  have hlt := hr.lt (by omega)
  refine ⟨ht.alloc _, hr.kept hb hlt, hf.kept hb hlt, fun j hj => ?_, fun j _ => ?_⟩
  · rw [Nat.zero_add, World.cell?_alloc_new]
    match j, hj with
    | 0, _ => rfl
    | 1, _ => rfl
    | 2, _ => rfl
  · rw [Nat.zero_add, World.frozen?_alloc_new]
theorem turn_val (g : Nat → K) (i k : Nat) : addQ (addQ (ofK (powK i g 0)) (ofK (powK i g 1))) (addQ (ofK (powK i g 2)) (ofK (powK i g k))) = ofK (turnK i g k) := by
  rw [addQ_ofK, kk_addQ, kk_addQ, kk_ofK, kk_ofK, kk_ofK, kk_ofK]; rfl
def upTo (k : Nat) (h f : Nat → Int) (j : Nat) : Int := if j < k then h j else f j
theorem upTo_step (k : Nat) (h f : Nat → Int) (x : Int) (hx : x = h k) (j : Nat) : (if j = k then x else upTo k h f j) = upTo (k + 1) h f j := by
  unfold upTo
  by_cases e : j = k
  · subst e; rw [if_pos rfl, if_pos (by omega), hx]
  · rw [if_neg e]
    by_cases h2 : j < k
    · rw [if_pos h2, if_pos (by omega)]
    · rw [if_neg h2, if_neg (by omega)]

set_option maxHeartbeats 4000000 in
set_option maxRecDepth 100000 in
theorem rmix_any (b : Nat) (g : Nat → K) (w : World) (hr : Row w b 0 3 (numsK g)) (hf : Free w b 0 3) :
    Calls Try.prog 31 #[.pointer (some ⟨b, 0, none⟩)] w fun e w' => e = .returned (.tuple #[]) ∧ Turned b w w' ∧ Row w' b 0 3 (numsK (mixed g)) ∧ Free w' b 0 3 := by
  have hblt : b < w.heap.size := hr.lt (by omega)
  have HR := hid hr
  have HF := hid hf
  clear hr hf
  go_enter Try.func31, Try.ntmps31
  go_wp2_with fail
  go_loopg [2] 8 (fun q i wr => ∃ n : Nat, n ≤ 8 ∧ q = 8 - n ∧ i = .int .i64 ((n : Int) + 1) ∧ Hid (Turned b w wr) ∧ Hid (Row wr b 0 3 (numsK (mixK g n))) ∧ Hid (Free wr b 0 3))
  case atStart => exact ⟨0, by omega, rfl, rfl, hid (Turned.refl _ _), HR, HF⟩
  case round =>
    clear HR HF
    obtain ⟨n, hn, rfl, rfl, HTU, HR, HF⟩ := hrel
    by_cases hlt : n < 8
    · have n0 : (n : Int) + 1 ≤ 8 := by omega
      go_wp2_with fail
      have hmx := Mx.start HTU.out HR.out HF.out 58
      obtain ⟨tb, htb⟩ : ∃ tb, wr.heap.size = tb := ⟨_, rfl⟩
      have hnew : w.heap.size ≤ tb := by rw [← htb]; exact HTU.out.size
      have hne : b ≠ tb := by omega
      rw [htb] at hmx ⊢
      clear htb HTU HR HF
      generalize wr.alloc (.cells #[.int .u64 0, .int .u64 0, .int .u64 0] 58) = W0 at hmx ⊢
      have HM0 := hid hmx
      clear hmx
      go_loopg [4] 3 (fun q i ws => ∃ k : Nat, k ≤ 3 ∧ q = 3 - k ∧ i = .int .i64 (k : Int) ∧ Hid (Mx w ws b (numsK (mixK g n)) tb (upTo k (fun j => ofK (powK (n + 1) (mixK g n) j)) (fun _ => 0))))
      case atStart => exact ⟨0, by omega, rfl, rfl, HM0⟩
      case round =>
        clear HM0
        obtain ⟨k, hk, rfl, rfl, HM⟩ := hrel
        by_cases hlt2 : k < 3
        · have c1 := HM.out.r k hlt2
          have c2 := HM.out.tr k hlt2
          have f2 := HM.out.tf k hlt2
          rw [Nat.zero_add] at c1 c2 f2
          obtain ⟨s, hs⟩ : ∃ s, numsK (mixK g n) k = s := ⟨_, rfl⟩
          obtain ⟨z, hz⟩ : ∃ z, upTo k (fun j => ofK (powK (n + 1) (mixK g n) j)) (fun _ => 0) k = z := ⟨_, rfl⟩
          have sr := numsK_rng (mixK g n) k
          have hadd := add_num (mixK g n) k (n + 1)
          obtain ⟨M, hM⟩ : ∃ M : Nat, (n + 1) * (k + 1) = M := ⟨_, rfl⟩
          have hM24 : M ≤ 24 := by rw [← hM]; exact Nat.mul_le_mul (show n + 1 ≤ 8 by omega) (show k + 1 ≤ 3 by omega)
          have HMI : Hid (((n : Int) + 1) * ((k : Int) + 1) = (M : Int)) := hid (by rw [← hM]; simp)
          rw [hM] at hadd
          rw [hs] at c1 sr hadd
          rw [hz] at c2
          obtain ⟨s0, s1⟩ := sr
          have wM : IntKind.u64.wrap (M : Int) = (M : Int) := by rw [IntKind.wrap_u64]; omega
          have hpk : p17 (mixK g n k + kn M) = powK (n + 1) (mixK g n) k := by unfold powK; rw [hM]
          obtain ⟨a, ha⟩ : ∃ a : K, mixK g n k + kn M = a := ⟨_, rfl⟩
          rw [ha] at hadd hpk
          have xr := ofK_rng a
          obtain ⟨x, hx⟩ : ∃ x, addQ s (M : Int) = x := ⟨_, rfl⟩
          have hxa : x = ofK a := by rw [← hx]; exact hadd
          rw [← hxa] at xr
          obtain ⟨x0, x1⟩ := xr
          have HXA := hid hxa
          have HPK := hid hpk
          have hra := fun W => radd_any s (M : Int) W (by omega) (by omega) (by omega) (by omega)
          rw [hx] at hra
          have HRA := hid hra
          clear hs hz hadd hM ha hx hxa hpk hra
          have k0 : (0 : Int) ≤ (k : Int) := by omega
          have k1 : (k : Int) < 3 := by omega
          have hMi := HMI.out
          go_wp2_with (go_at_call 15; refine (HRA.out _).mono ?_; rintro e w' ⟨rfl, hw⟩; obtain rfl := hw.symm)
          clear hMi wM
          obtain ⟨wo, rfl⟩ : ∃ q, q = wr := ⟨wr, rfl⟩
          go_loopg [6, 7] 4 (fun q y i ws => ∃ (i0 : Nat) (v : Int), i0 ≤ 4 ∧ q = 4 - i0 ∧ y = .int .u64 v ∧ i = .int .i64 (i0 : Int) ∧ 0 ≤ v ∧ v ≤ 2305843009213693950 ∧ Hid (v = ofK (sqK a i0)) ∧ ws = wo)
          case atStart => exact ⟨0, x, by omega, rfl, rfl, rfl, x0, x1, HXA, rfl⟩
          case round =>
            obtain ⟨i0, v, hi0, rfl, rfl, rfl, v0, v1, HV, hw⟩ := hrel
            obtain rfl := hw.symm
            by_cases hlt3 : i0 < 4
            · have HSQ := hid (sq_step a i0 v HV.out)
              have i1 : (i0 : Int) < 4 := by omega
              go_wp2_with (go_at_call 16; refine (rmul_any _ _ _ (by omega) (by omega) (by omega) (by omega)).mono ?_; rintro e w' ⟨rfl, hw⟩; obtain rfl := hw.symm)
              go_roundg (4 - (i0 + 1))
              case measure => go_light; omega
              case rel => exact ⟨i0 + 1, _, by omega, rfl, rfl, by go_num, (mulQ_rng _ _).1, (mulQ_rng _ _).2, HSQ, rfl⟩
            · have e : i0 = 4 := by omega
              subst e
              have HP := hid ((p17_step a x v HXA.out HV.out).trans (congrArg ofK HPK.out))
              go_wp2_with (go_at_call 16; refine (rmul_any _ _ _ (by omega) (by omega) (by omega) (by omega)).mono ?_; rintro e w' ⟨rfl, hw⟩; obtain rfl := hw.symm)
              go_roundg (3 - (k + 1))
              case measure => go_light; omega
              case rel => exact ⟨k + 1, by omega, rfl, by go_num, hid ((HM.out.putT hnew hne k hlt2 _).congr (fun _ _ => rfl) fun j _ => upTo_step k _ _ _ HP.out j)⟩
        · have e : k = 3 := by omega
          subst e
          have HM3 : Hid (Mx w wr b (numsK (mixK g n)) tb (fun j => ofK (powK (n + 1) (mixK g n) j))) := hid (HM.out.congr (fun _ _ => rfl) fun j hj => by rw [upTo, if_pos hj])
          clear HM
          go_wp2_with fail
          go_loopg [8] 3 (fun q i ws => ∃ k : Nat, k ≤ 3 ∧ q = 3 - k ∧ i = .int .i64 (k : Int) ∧ Hid (Mx w ws b (upTo k (numsK (mixK g (n + 1))) (numsK (mixK g n))) tb (fun j => ofK (powK (n + 1) (mixK g n) j))))
          case atStart => exact ⟨0, by omega, rfl, rfl, HM3⟩
          case round =>
            clear HM3
            obtain ⟨k, hk, rfl, rfl, HM⟩ := hrel
            by_cases hlt2 : k < 3
            · have c0 := HM.out.tr 0 (by omega)
              have c1 := HM.out.tr 1 (by omega)
              have c2 := HM.out.tr 2 (by omega)
              have ck := HM.out.tr k hlt2
              have cs := HM.out.r k hlt2
              have fs := HM.out.f k hlt2
              have hval := turn_val (mixK g n) (n + 1) k
              have r0 := ofK_rng (powK (n + 1) (mixK g n) 0)
              have r1 := ofK_rng (powK (n + 1) (mixK g n) 1)
              have r2 := ofK_rng (powK (n + 1) (mixK g n) 2)
              have rk := ofK_rng (powK (n + 1) (mixK g n) k)
              obtain ⟨p0, h0⟩ : ∃ x, ofK (powK (n + 1) (mixK g n) 0) = x := ⟨_, rfl⟩
              obtain ⟨p1, h1⟩ : ∃ x, ofK (powK (n + 1) (mixK g n) 1) = x := ⟨_, rfl⟩
              obtain ⟨p2, h2⟩ : ∃ x, ofK (powK (n + 1) (mixK g n) 2) = x := ⟨_, rfl⟩
              obtain ⟨pk, hpk⟩ : ∃ x, ofK (powK (n + 1) (mixK g n) k) = x := ⟨_, rfl⟩
              obtain ⟨z, hz⟩ : ∃ z, upTo k (numsK (mixK g (n + 1))) (numsK (mixK g n)) k = z := ⟨_, rfl⟩
              rw [Nat.zero_add] at c0 c1 c2 ck cs fs
              rw [h0] at c0 r0 hval
              rw [h1] at c1 r1 hval
              rw [h2] at c2 r2 hval
              rw [hpk] at ck rk hval
              rw [hz] at cs
              have HVA := hid hval
              obtain ⟨r00, r01⟩ := r0
              obtain ⟨r10, r11⟩ := r1
              obtain ⟨r20, r21⟩ := r2
              obtain ⟨rk0, rk1⟩ := rk
              obtain ⟨a0, a1⟩ := addQ_rng p0 p1
              obtain ⟨d0, d1⟩ := addQ_rng p2 pk
              clear hval h0 h1 h2 hpk hz
              have k0 : (0 : Int) ≤ (k : Int) := by omega
              have k1 : (k : Int) < 3 := by omega
              go_wp2_with fail
              refine wp_region_still_tail 17 Try.mixedS (by kernel_rfl) ?_
              simp only [List.take_succ_cons, List.take_zero, List.drop_succ_cons, List.drop_zero]
              iterate 6 still_step
              still_call (radd_any p0 p1 _ (by omega) (by omega) (by omega) (by omega))
              iterate 5 still_step
              still_call (radd_any p2 pk _ (by omega) (by omega) (by omega) (by omega))
              still_call (radd_any (addQ p0 p1) (addQ p2 pk) _ (by omega) (by omega) (by omega) (by omega))
              iterate 3 still_step
              refine wpStill_nil ?_
              go_wp2_with fail
              go_roundg (3 - (k + 1))
              case measure => go_light; omega
              case rel => exact ⟨k + 1, by omega, rfl, by go_num, hid (((HM.out.drew).putS hne k hlt2 _).congr (fun j _ => upTo_step k _ _ _ HVA.out j) fun _ _ => rfl)⟩
            · have e : k = 3 := by omega
              subst e
              go_wp2_with fail
              go_roundg (8 - (n + 1))
              case measure => go_light; omega
              case rel => exact ⟨n + 1, by omega, rfl, by go_num, hid HM.out.t, hid (HM.out.r.congr fun j hj => by rw [upTo, if_pos hj]), hid HM.out.f⟩
    · have e : n = 8 := by omega
      subst e
      go_wp2_with fail
      go_end0
      exact ⟨rfl, HTU.out, HR.out, HF.out⟩

end Go.Proofs.Ytoogpkcpheannac
