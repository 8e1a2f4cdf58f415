/-
  Plain: a layer's value at a point is the sum of steps at all places of the layer below. And a contract of the law's own function that makes a place's corner.
-/
import Derived.Test.YtnnjajmkfgnhcaaDoorWirQ
import Derived.Test.YtnnjajmkfgnhcaaDoorCircF
import Derived.Test.YtnnjajmkfgnhcaaDoorOwn
import Derived.Deep.LoopGhost
import Derived.Deep.Light
import Derived.Deep.DrawnRows
import Derived.Lib.SliceRun
import Derived.Deep.OwnRows
namespace Go.Proofs.YtnnjajmkfgnhcaaDoor
open Go.RowKit Go.Deep
set_option linter.unusedVariables false
attribute [local go_sem ↓] Go.wp_at_zero Go.wp_at_succ

theorem lay_steps (M : Nat → Bool) (A B : Nat → Nat) (l k : Nat) (V z : Nat → K) (hA : ∀ g, g < 2 ^ l → A g < 2 ^ k) (hB : ∀ g, g < 2 ^ l → B g < 2 ^ k) :
    sK (fun a => sK (fun b => stepK M A B l k z (bitK a k) (bitK b k) (V a) (V b)) (2 ^ k)) (2 ^ k) = evS (gateK M A B V) z l := by
  rw [← lay_sum M A B l k V z z hA hB, cube_split, cube_sum]
  refine sK_congr _ fun a ha => ?_
  rw [cube_sum]
  refine sK_congr _ fun b hb => ?_
  have h1 : ∀ j, j < k → cornK (cornK z 0 k a) (0 + k) k b j = bitK a k j := fun j hj => by unfold cornK; rw [if_neg (by omega), if_pos (by omega), Nat.sub_zero]
  have h2 : ∀ j, j < k → (fun j => cornK (cornK z 0 k a) (0 + k) k b (k + j)) j = bitK b k j := fun j hj => by dsimp only; unfold cornK; rw [if_pos (by omega), show k + j - (0 + k) = j from by omega]
  unfold layF
  rw [stepK_congr M A B l k _ _ (fun _ _ => rfl) h1 h2, evS_congr k (fun _ _ => rfl) h1, evS_congr k (fun _ _ => rfl) h2, evS_bit V k a ha, evS_bit V k b hb]
/-- The step at two places of the layer below. -/
def stpK (c : CQ) (k : Nat) (q : Nat → Int) (n : Nat) (F : Nat → Int) (a b : Nat) : K := kk (wspQ c (k : Int) q (bitF a n) (bitF b n) (F a) (F b))
theorem tells_sum {c : CQ} (hc : c.right) {k n lz : Nat} {l : LQ} (hl : c.layers[k]? = some l) (hn : belowQ c k = (n : Int)) (hz : l.log = (lz : Int)) (f q : Nat → Int) :
    sK (fun a => sK (stpK c k q n (valsQ c f k) a) (2 ^ n)) (2 ^ n) = evS (fun j => kk (valsQ c f (k + 1) j)) (fun j => kk (q j)) lz := by
  obtain ⟨r1, r2, r3⟩ := hc.layer k l hl
  rw [hz, Int.toNat_natCast] at r2
  rw [hn, Int.toNat_natCast] at r3
  have hg : ∀ g, g < 2 ^ lz → gA l.gates g < 2 ^ n ∧ gB l.gates g < 2 ^ n := fun g hg => by
    obtain ⟨x, hx⟩ : ∃ x, l.gates[g]? = some x := ⟨l.gates[g]'(by rw [r2]; exact hg), by simp⟩
    rw [gA_at hx, gB_at hx]
    obtain ⟨⟨a0, a1⟩, b0, b1⟩ := r3 x (List.mem_of_getElem? hx)
    omega
  have e : ∀ a, (fun j => pK (bitF a n) j) = bitK a n := fun a => by funext j; exact kk_bitF a n j
  have e1 : ∀ b, b < 2 ^ lz → kk (valsQ c f (k + 1) b) = gateK (gM l.gates) (gA l.gates) (gB l.gates) (fun i => kk (valsQ c f k i)) b := fun b hb => by
    rw [← vals_layer hl]; exact lay_gate (by rw [r2]; exact hb)
  rw [evS_congr lz e1 (fun _ _ => rfl), ← lay_steps (gM l.gates) (gA l.gates) (gB l.gates) lz n (fun i => kk (valsQ c f k i)) (fun j => kk (q j)) (fun g h => (hg g h).1) (fun g h => (hg g h).2)]
  refine sK_congr _ fun a _ => sK_congr _ fun b _ => ?_
  unfold stpK
  rw [wspQ_at hl, hz, hn, Int.toNat_natCast, Int.toNat_natCast]
  unfold wstQ
  rw [kk_ofK, ← e a, ← e b]
  rfl
theorem tells_next {c : CQ} {k n : Nat} {q F : Nat → Int} {D t u : Nat} {p s : Int} (hp : p = ofK (sK (fun a => sK (stpK c k q n F a) D) t + sK (stpK c k q n F t) u)) (hs : s = wspQ c (k : Int) q (bitF t n) (bitF u n) (F t) (F u)) :
    addQ p s = ofK (sK (fun a => sK (stpK c k q n F a) D) t + sK (stpK c k q n F t) (u + 1)) := by
  rw [addQ_ofK, hp, hs, kk_ofK]
  congr 1
  show _ = sK (fun a => sK (stpK c k q n F a) D) t + (sK (stpK c k q n F t) u + stpK c k q n F t u)
  unfold stpK
  grind
theorem and1 (s : Nat) (hs : s ≤ 100000) : bits .and .i64 (s : Int) 1 = ((s % 2 : Nat) : Int) := by
  have h1 : (BitVec.ofInt 64 1).toNat = 2 ^ 1 - 1 := by decide
  have key : (BitVec.ofInt 64 (s : Int) &&& BitVec.ofInt 64 1).toNat = ((s : Int) % ((2 ^ 64 : Nat) : Int)).toNat % 2 ^ 1 := by
    rw [BitVec.toNat_and, BitVec.toNat_ofInt, h1, Nat.and_two_pow_sub_one_eq_mod]
  show IntKind.i64.wrap ((BitVec.ofInt 64 (s : Int) &&& BitVec.ofInt 64 1).toNat : Nat) = _
  rw [key, IntKind.wrap_i64]
  omega
theorem bitF_rng (b n j : Nat) : 0 ≤ bitF b n j ∧ bitF b n j ≤ 1 := by unfold bitF; omega
theorem Nums_bitW (b n : Nat) : Nums (bitF b n) := fun j => by have := bitF_rng b n j; omega
theorem put_bit (f : Nat → Int) (k j : Nat) (a : Int) (ha : f k = a) : (if j = k then a else if j < k then f j else 0) = if j < k + 1 then f j else 0 := by
  by_cases e : j = k
  · subst e; rw [if_pos rfl, if_pos (by omega), ha]
  · rw [if_neg e]
    by_cases h2 : j < k
    · rw [if_pos h2, if_pos (by omega)]
    · rw [if_neg h2, if_neg (by omega)]

set_option maxHeartbeats 1000000 in
set_option maxRecDepth 100000 in
theorem corner_any (Bn n at0 : Nat) (w : World) (hn : n ≤ 8) (hat : at0 ≤ 100000) (hc : w.cell? ⟨Bn, 0, none⟩ = some (.int .i64 (n : Int))) :
    Calls Tryd.prog 24 #[.int .i64 (at0 : Int), .pointer (some ⟨Bn, 0, none⟩)] w fun e w' => e = .returned (.slice (some ⟨w.heap.size, 0, none⟩) n n) ∧ Made w w' n (bitF at0 n) := by
  have hlt : Bn < w.heap.size := World.block_lt_of_cell? w _ hc
  have HC := hid (And.intro hc hlt)
  have hmk := run_make_row' (P := Tryd.prog) 22 26 (.int .u64 0) 8 Tryd.underlying22 Tryd.infoO rfl .i64 .i64 n (by omega) (by omega)
  go_enter Tryd.func24, Tryd.ntmps24
  go_wp2_with fail
  clear hmk hc hlt
  go_loopg [10] n (fun g i wr => ∃ k : Nat, k ≤ n ∧ g = n - k ∧ i = .int .i64 (k : Int) ∧ Hid (Made w wr n (fun j => if j < k then bitF at0 n j else 0)))
  case atStart => exact ⟨0, by omega, rfl, rfl, hid ((Made.start w n 26).congr fun j _ => by rw [if_neg (by omega)])⟩
  case round =>
    obtain ⟨k, hk, rfl, rfl, HM⟩ := hrel
    by_cases hlt : k < n
    · have c1 := (HM.out.below.cell HC.out.2).trans HC.out.1
      have c3 := HM.out.cell k hlt
      have f3 := HM.out.frozen k hlt
      rw [if_neg (by omega)] at c3
      obtain ⟨q, hq⟩ : ∃ q : Nat, q + k + 1 = n := ⟨n - 1 - k, by omega⟩
      obtain ⟨s, hs⟩ : ∃ s : Nat, at0 / 2 ^ q = s := ⟨_, rfl⟩
      have hs2 : (at0 : Int) / 2 ^ q = (s : Int) := by rw [← hs]; simp
      have hsl : s ≤ 100000 := by rw [← hs]; exact Nat.le_trans (Nat.div_le_self _ _) hat
      have hy : bitF at0 n k = ((s % 2 : Nat) : Int) := by unfold bitF; rw [show n - 1 - k = q from by omega, hs]
      have HY := hid hy
      have hw1 : wrap64 ((n : Int) - 1 - (k : Int)) = (q : Int) := by rw [show (n : Int) - 1 - (k : Int) = (q : Int) from by omega]; exact IntWalk.wrap64_in _ (by omega)
      have han := and1 s hsl
      have hmin : min q 64 = q := Nat.min_eq_left (by omega)
      have hnk : (n : Int) - 1 - (k : Int) = (q : Int) := by omega
      have q0 : (0 : Int) ≤ (q : Int) := by omega
      obtain ⟨y, hyy⟩ : ∃ y : Nat, s % 2 = y := ⟨_, rfl⟩
      have y1 : y ≤ 1 := by omega
      rw [hyy] at han HY
      have k0 : (0 : Int) ≤ (k : Int) := by omega
      have k1 : (k : Int) < (n : Int) := by omega
      clear hq hs hy hyy
      go_wp2_with fail
      go_roundg (n - (k + 1))
      case measure => go_light; omega
      case rel => exact ⟨k + 1, by omega, rfl, by go_num, hid ((HM.out.store k _ hlt).congr fun j _ => put_bit (bitF at0 n) k j _ HY.out)⟩
    · have e : k = n := by omega
      subst e
      go_wp2_with fail
      go_ret
      exact ⟨rfl, HM.out.congr fun j hj => by rw [if_pos hj]⟩

end Go.Proofs.YtnnjajmkfgnhcaaDoor
