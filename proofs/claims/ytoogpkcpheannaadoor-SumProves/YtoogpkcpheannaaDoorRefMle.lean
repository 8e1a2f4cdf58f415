/-
  Contracts of the document's own answers for tables, tallyref's Eval (the sum over all corners) and bits, each for every input; they make new rows and write nothing that was there.
-/
import Derived.Test.YtoogpkcpheannaaDoorChecked
import Derived.Test.YtoogpkcpheannaaDoorMulti
import Derived.Test.YtoogpkcpheannaaDoorOwn
import Derived.Test.YtoogpkcpheannaaDoorRefA
import Derived.Test.YtoogpkcpheannaaDoorMleRef
import Derived.Test.YtoogpkcpheannaaDoorRefVars
import Derived.WalkKit
import Derived.Deep.RegionHeld3
import Derived.Deep.RegionWith
import Derived.Deep.OwnRows
import Derived.Deep.LoopGhost
import Derived.Deep.Light
import Derived.Deep.DrawnRows
namespace Go.Proofs.YtoogpkcpheannaaDoor
open Go.RowKit
set_option linter.unusedVariables false
attribute [local go_sem ↓] Go.wp_at_zero Go.wp_at_succ

theorem req_p (ao : Option Addr) (n cap : Nat) (g : Nat → Int) (at0 : Nat) (w : World) (hn : n ≤ 1000) (hp : PRow w ao n g) (hv : Nums g) (hat : at0 ≤ 100000) :
    Calls Tryd.prog 26 #[.slice ao n cap, .int .i64 (at0 : Int)] w fun e w' => e = .returned (.int .u64 (ofK (eqK (fun j => kk (g j)) n at0))) ∧ w' = w := by
  by_cases h0 : 0 < n
  · obtain ⟨b, off, rfl, hr⟩ := hp h0
    exact req_any b off n cap g at0 w hn hr hv hat
  · obtain rfl : n = 0 := by omega
    exact req_zero ao cap at0 w hat

theorem ev_step (f : Nat → Int) (g : Nat → K) (n k : Nat) (z a : Int) (hz : z = ofK (sK (fun b => kk (f b) * eqK g n b) k)) (ha : f k = a) : addQ z (mulQ a (ofK (eqK g n k))) = ofK (sK (fun b => kk (f b) * eqK g n b) (k + 1)) := by
  rw [addQ_ofK, hz, kk_ofK, kk_mulQ, kk_ofK, sK, ha]
set_option maxHeartbeats 2000000 in
set_option maxRecDepth 100000 in
theorem reval_any (b off n N cap cap2 : Nat) (ao : Option Addr) (f g : Nat → Int) (w : World) (hn : n ≤ 1000) (hN : N = 2 ^ n) (hN2 : N ≤ 1000) (hr : Row w b off N f) (hv : Nums f) (hp : PRow w ao n g) (hg : Nums g) :
    Calls Tryd.prog 9 #[.slice (some ⟨b, off, none⟩) N cap, .slice ao n cap2] w fun e w' => e = .returned (.int .u64 (ofK (evS (fun j => kk (f j)) (fun j => kk (g j)) n))) ∧ Below w.heap.size w w' := by
  have HE := hid (fun k (hk : k ≤ 1000) w' (h : PRow w' ao n g) => req_p ao n cap2 g k w' hn h hg (by omega))
  have HR := hid hr
  have HV := hid hv
  have HP := hid hp
  have HN := hid hN
  clear hr hv hp hg hN
  go_enter Tryd.func9, Tryd.ntmps9
  go_wp2_with fail
  go_loopg [5, 6] N (fun q o i wr => ∃ (k : Nat) (z : Int), k ≤ N ∧ q = N - k ∧ o = .int .u64 z ∧ i = .int .i64 (k : Int) ∧ 0 ≤ z ∧ z ≤ 2305843009213693950 ∧ Hid (z = ofK (sK (fun b => kk (f b) * eqK (fun j => kk (g j)) n b) k)) ∧ Hid (Row wr b off N f) ∧ Hid (PRow wr ao n g) ∧ Hid (Below w.heap.size w wr))
  case atStart => exact ⟨0, 0, by omega, rfl, rfl, rfl, by omega, by omega, hid rfl, HR, HP, hid (Below.refl _ _)⟩
  case round =>
    clear HR HP
    obtain ⟨k, z, hk, rfl, rfl, rfl, z0, z1, HZ, HR, HP, HB⟩ := hrel
    by_cases hlt : k < N
    · have c1 := HR.out k hlt
      obtain ⟨a, ha⟩ : ∃ a, f k = a := ⟨_, rfl⟩
      have ba := HV.out k
      rw [ha] at c1 ba
      obtain ⟨a0, a1⟩ := ba
      have HA := hid ha
      clear ha
      have he := HE.out k (by omega)
      have hst := fun z h => ev_step f (fun j => kk (g j)) n k z a h HA.out
      obtain ⟨e0, e1⟩ := ofK_rng (eqK (fun j => kk (g j)) n k)
      generalize ofK (eqK (fun j => kk (g j)) n k) = y at he hst e0 e1
      have HE2 := hid he
      have HST := hid (hst z HZ.out)
      clear he hst
      obtain ⟨m0, m1⟩ := mulQ_rng a y
      have k0 : (0 : Int) ≤ (k : Int) := by omega
      have k1 : (k : Int) < (N : Int) := by omega
      go_wp2_with fail
      go_region_with (first | (go_at_call 26; refine (HE2.out _ (by exact HP.out)).mono ?_; rintro e w' ⟨rfl, hw⟩; obtain rfl := hw.symm) | (go_at_call 22; refine (rmul_any _ _ _ (by omega) (by omega) (by omega) (by omega)).mono ?_; rintro e w' ⟨rfl, hw⟩; obtain rfl := hw.symm) | (go_at_call 25; refine (radd_any _ _ _ (by omega) (by omega) (by omega) (by omega)).mono ?_; rintro e w' ⟨rfl, hw⟩; obtain rfl := hw.symm))
      all_goals (go_wp2_with fail)
      all_goals (go_roundg (N - (k + 1)))
      all_goals first | (go_light; omega) | (exact ⟨k + 1, _, by omega, rfl, rfl, by go_num, (addQ_rng _ _).1, (addQ_rng _ _).2, HST, hid HR.out.drew, hid HP.out.drew, hid HB.out.drew⟩)
    · have e : k = N := by omega
      subst e
      go_wp2_with fail
      go_ret
      exact ⟨ret_u64 (by rw [HZ.out, HN.out]; rfl), HB.out⟩

theorem Nums_bitF (b n : Nat) : Nums (bitF b n) := fun j => by unfold bitF; omega

theorem cast_shift (b q : Nat) : ((b / 2 ^ q : Nat) : Int) = (b : Int) / 2 ^ q := by simp
set_option maxHeartbeats 2000000 in
set_option maxRecDepth 100000 in
theorem rbits_any (at0 n : Nat) (w : World) (hn : n ≤ 60) (hat : at0 ≤ 100000) :
    Calls Tryd.prog 24 #[.int .i64 (at0 : Int), .int .i64 (n : Int)] w fun e w' => ∃ v, e = .returned v ∧ Own w' w.heap.size v n (bitF at0 n) ∧ Below w.heap.size w w' ∧ (n = 0 → v = .slice none 0 0) := by
  obtain ⟨i0, hi, hz0, hz1, hz2⟩ := info_parts Tryd.infoO
  have HI := hid (And.intro hi (And.intro hz0 (And.intro hz1 hz2)))
  clear hi hz0 hz1 hz2
  go_enter Tryd.func24, Tryd.ntmps24
  go_wp2_with fail
  go_loopg [5, 6] n (fun m o i wr => ∃ (k : Nat) (t : Int) (v : Value), k ≤ n ∧ m = n - k ∧ o = v ∧ i = .int .i64 t ∧ Hid (t = (n : Int) - 1 - k) ∧ Hid (Own wr w.heap.size v k (bitF at0 n)) ∧ Hid (Below w.heap.size w wr) ∧ Hid (k = 0 → v = .slice none 0 0))
  case atStart => exact ⟨0, _, _, by omega, rfl, rfl, rfl, hid (by omega), hid (Own.nil _ _ _), hid (Below.refl _ _), hid (fun _ => rfl)⟩
  case round =>
    obtain ⟨k, t, v, hk, rfl, rfl, rfl, HT, HO, HB, HK0⟩ := hrel
    by_cases hlt : k < n
    · obtain ⟨q, hq⟩ : ∃ q : Nat, q + k + 1 = n := ⟨n - 1 - k, by omega⟩
      have ht : t = (q : Int) := by have := HT.out; omega
      subst ht
      have hqn : q < n := by omega
      have q0 : (0 : Int) ≤ (q : Int) := by omega
      obtain ⟨s, hs⟩ : ∃ s : Nat, at0 / 2 ^ q = s := ⟨_, rfl⟩
      have hs2 : (at0 : Int) / 2 ^ q = (s : Int) := by rw [← hs]; simp
      have hsl : s ≤ 100000 := by rw [← hs]; exact Nat.le_trans (Nat.div_le_self _ _) hat
      have hy : bitF at0 n k = ((s % 2 : Nat) : Int) := by unfold bitF; rw [show n - 1 - k = q from by omega, hs]
      have HY := hid hy
      have s0 : (0 : Int) ≤ (s : Int) := by omega
      have hwu : IntKind.u64.wrap (((at0 : Int) / 2 ^ q).tmod 2) = (s : Int) % 2 := by
        rw [hs2, IntKind.wrap_u64, Int.tmod_eq_emod_of_nonneg s0]
        omega
      have hmin : min q 64 = q := Nat.min_eq_left (by omega)
      clear hq hy hs hs2
      go_wp2_with (at_builtin; refine wpList_append_lies _ rfl _ _ 22 rfl w.heap.size 23 i0 (.int .u64 0) 1 8 Tryd.underlying22 HI.out.1 HI.out.2.1 HI.out.2.2.1 HI.out.2.2.2 rfl (by decide) _ _ _ rfl (World.ownsRow.alloc HO.out _) ⟨wr.heap.size, 0, none⟩ 1 1 [.int .u64 ((s : Int) % 2)] rfl rfl ?qc2 ?qc3 ?qc4 ?qc5 ?qc6 ?qc7 (wr.heap.size + 1) ?qc8 ?_)
      case qc2 =>
        intro j u hj
        match j, hj with
        | 0, hj => simp at hj; subst hj; simp [Addr.add]
      case qc3 => intro u hu; simp at hu; subst hu; rfl
      case qc4 => omega
      case qc5 => unfold maxLen; omega
      case qc6 => omega
      case qc7 => have := HB.out.size; simp; omega
      case qc8 => simp
      intro g2 c2 w6 hown2 hgrow2 hat2 hlt2
      have HO6 : Hid (Own w6 w.heap.size (.slice (some ⟨g2, 0, none⟩) (k + 1) c2) (k + 1) (bitF at0 n)) := hid (by
        rw [cellsOf_snoc] at hown2
        exact Own.congr hown2 fun j hj => by
          unfold catF
          by_cases e : j < k
          · rw [if_pos e]
          · rw [if_neg e, show j = k from by omega, HY.out]; simp)
      have HB6 : Hid (Below w.heap.size w w6) := hid ((HB.out.alloc HB.out.size _).grown hgrow2 (by have := HB.out.size; simp; omega) (by intro t ht; exact (World.ownsRow.lt HO.out t ht).1))
      clear hown2 hgrow2 hat2 hlt2
      go_wp2_with fail
      go_roundg (n - (k + 1))
      case measure => go_light; omega
      case rel => exact ⟨k + 1, _, _, by omega, rfl, rfl, rfl, hid (by have := HT.out; omega), HO6, HB6, hid (fun h => by omega)⟩
    · have e : k = n := by omega
      subst e
      have ht : t = -1 := by have := HT.out; omega
      subst ht
      go_wp2_with fail
      go_ret
      exact ⟨_, rfl, HO.out, HB.out, HK0.out⟩

end Go.Proofs.YtoogpkcpheannaaDoor
