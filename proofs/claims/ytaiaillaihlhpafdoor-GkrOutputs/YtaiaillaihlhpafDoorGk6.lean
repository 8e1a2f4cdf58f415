/-
  slices.Backward over a circuit's layers: what its closure yields, round by round; it reads alone.
-/
import Derived.Test.YtaiaillaihlhpafDoorRangeK
import Derived.Test.YtaiaillaihlhpafDoorGkrM
import Derived.OwnWalkIn
import Derived.TacticsInMore
import Derived.LoopNIn
import Derived.LoopIn
namespace Go.Proofs.YtaiaillaihlhpafDoor
open Go.RowKit Go.Shelf
set_option linter.unusedVariables false
attribute [local go_sem] Oper.semAt_some

/-- What comes in round k: the place from the end on, and the layer there. -/
def backV (ls : List LQ) (A : Nat → Option Addr) (C : Nat → Nat) (n k : Nat) : Array Value :=
  #[.int .i64 ((n : Int) - 1 - (k : Int)), .agg #[.int .i64 (((ls[n - 1 - k]?).map LQ.log).getD 0), .slice (A (n - 1 - k)) (((ls[n - 1 - k]?).map fun l => l.gates.length).getD 0) (C (n - 1 - k))]]

set_option maxRecDepth 100000 in
set_option maxHeartbeats 2000000 in
theorem back1_in (n1 l Bs n₀ b off n cap : Nat) (ls : List LQ) (A : Nat → Option Addr) (C : Nat → Nat) (hn1 : 1 ≤ n1) (hn : ls.length = n) (n4 : n ≤ 1000) (hb : b < n₀) (J : Nat → World → Prop) (W : World)
    (hY : ∀ k W1, k < n → J k W1 → YieldAt Fence.wide (n1 - 1) Tryd.prog l (backV ls A C n k) W1 fun e W' => e = .returned (.bool true) ∧ J (k + 1) W' ∧ KeepB n₀ Bs W1 W')
    (hBs : W.cell? ⟨Bs, 0, none⟩ = some (.slice (some ⟨b, off, none⟩) n cap)) (hr : CRow W (some ⟨b, off, none⟩) ls A C) (h0 : J 0 W) :
    CallsIn Fence.wide n1 Tryd.prog 64 #[.func (.yield l) #[] #[], .pointer (some ⟨Bs, 0, none⟩)] W fun e W' => (∃ v, e = .returned v) ∧ J n W' := by
  refine callsIn_of_wp Tryd.func64 rfl trivial ?_ rfl
  simp only [Tryd.ntmps64, List.size_toArray, List.length_cons, List.length_nil, Nat.reduceAdd, Nat.reduceSub, Array.replicate_succ, Array.replicate_zero, List.push_toArray, List.append_toArray, List.nil_append, List.cons_append]
  gi_wp2
  gi_loopw [3] (fun i wr => ∃ (k : Nat) (x : Int), k ≤ n ∧ i = .int .i64 x ∧ Hid (x = (n : Int) - 1 - (k : Int)) ∧ Hid (J k wr) ∧ Hid (KeepB n₀ Bs W wr)) (fun i _ => (intOf i + 1).toNat)
  case atStart => exact ⟨0, _, Nat.zero_le _, rfl, hid (by omega), hid h0, hid (KeepB.refl _ _ _)⟩
  case round =>
    obtain ⟨k, x, hk, rfl, HX, HJ, HK⟩ := hrel
    by_cases hlt : k < n
    · obtain ⟨j, hj⟩ : ∃ j : Nat, x = (j : Int) := ⟨n - 1 - k, by rw [HX.out]; omega⟩
      subst hj
      have hjn : n - 1 - k = j := by have := HX.out; omega
      obtain ⟨fn, tmps, assign, body, hy, hR⟩ := hY k wr hlt HJ.out
      obtain ⟨q, hq⟩ : ∃ q, ls[j]? = some q := ⟨ls[j]'(by omega), by simp⟩
      obtain ⟨b', off', eb, hc⟩ := hr (by intro e; rw [e] at hn; simp at hn; omega)
      cases eb
      obtain ⟨y0, y1, _, _⟩ := hc j q hq
      rw [Nat.mul_comm 2 j] at y0 y1
      replace y0 := (HK.out.bel.cell (p := ⟨b, off + j * 2, none⟩) hb).trans y0
      replace y1 := (HK.out.bel.cell (p := ⟨b, off + j * 2 + 1, none⟩) hb).trans y1
      have y2 : wr.cell? ⟨Bs, 0, none⟩ = some (.slice (some ⟨b, off, none⟩) n cap) := (World.cell?_of_block (w := W) (a := ⟨Bs, 0, none⟩) HK.out.blk).trans hBs
      unfold backV at hy
      rw [hjn, hq, ← HX.out] at hy
      dsimp only [Option.map_some, Option.getD_some] at hy
      have j0 : (0 : Int) ≤ (j : Int) := by omega
      have j1 : (j : Int) < (n : Int) := by omega
      clear hc hq hjn
      gi_wp2
      refine hR.mono ?_
      rintro e W3 ⟨rfl, hJ3, hk3⟩
      have HJ3 := hid hJ3
      have HK3 := hid (HK.out.trans hk3)
      clear hJ3 hk3 y0 y1 y2
      gi_wp2
      go_roundw
      case rel => exact ⟨k + 1, _, by omega, rfl, hid (by have := HX.out; omega), HJ3, HK3⟩
      case measure => simp [intOf]
    · have e : k = n := by omega
      have hx : x = -1 := by rw [HX.out]; omega
      subst e
      subst hx
      gi_wp2
      go_end0
      exact ⟨⟨_, rfl⟩, HJ.out⟩

/-- The closure, as the law of such loops takes it. -/
theorem back_seq (n1 Bs n₀ b off n cap : Nat) (ls : List LQ) (A : Nat → Option Addr) (C : Nat → Nat) (w : World) (hn1 : 1 ≤ n1) (hn : ls.length = n) (n4 : n ≤ 1000) (hb : b < n₀) (hbw : b < w.heap.size)
    (hBs : w.cell? ⟨Bs, 0, none⟩ = some (.slice (some ⟨b, off, none⟩) n cap)) (hr : CRow w (some ⟨b, off, none⟩) ls A C) :
    KnownSeq Fence.wide n1 Tryd.prog 64 #[.pointer (some ⟨Bs, 0, none⟩)] (backV ls A C n) n n₀ Bs w := fun l J W hW hY h0 =>
  back1_in n1 l Bs n₀ b off n cap ls A C hn1 hn n4 hb J W hY ((hW.cell (World.block_lt_of_cell? w _ hBs)).trans hBs) (hr.kept hW) h0

set_option maxHeartbeats 1000000 in
/-- slices.Backward: the list is boxed; the function captures the box. -/
theorem back_any (a : Option Addr) (n cap : Nat) (w : World) :
    Calls Tryd.prog 49 #[.slice a n cap] w fun e w' => e = .returned (.func (.func 64) #[] #[.pointer (some ⟨w.heap.size, 0, none⟩)]) ∧ w' = w.alloc (.cells #[.slice a n cap] 22) := by
  go_enter Tryd.func49, Tryd.ntmps49
  go_wp2_with fail
  go_ret
  exact ⟨rfl, rfl⟩

end Go.Proofs.YtaiaillaihlhpafDoor
