/-
  A range over a function whose rounds are known ahead: what comes in round k is f k, and there are N rounds; the body never leaves the loop. Of every program; nothing of this one in it.
-/
import Derived.RangeFuncBox
import Derived.RangeFuncLeaves
import Derived.Shelf.Abstract
import Derived.WalkKit
namespace Go.Proofs.YtaiaillaihlhpafDoor
open Go.RowKit
set_option linter.unusedVariables false

/-- What a round keeps: all that lay below n₀, and block Bs (what the iterator has captured). -/
structure KeepB (n₀ Bs : Nat) (W W' : World) : Prop where
  bel : Below n₀ W W'
  blk : W'.heap[Bs]? = W.heap[Bs]?
theorem KeepB.refl (n₀ Bs : Nat) (W : World) : KeepB n₀ Bs W W := ⟨Below.refl _ _, rfl⟩
theorem KeepB.trans {n₀ Bs : Nat} {A B C : World} (h : KeepB n₀ Bs A B) (k : KeepB n₀ Bs B C) : KeepB n₀ Bs A C := ⟨h.bel.trans k.bel, k.blk.trans h.blk⟩
theorem KeepB.below {n₀ Bs : Nat} {W W' : World} (h : Below W.heap.size W W') (hn : n₀ ≤ W.heap.size) (hB : Bs < W.heap.size) : KeepB n₀ Bs W W' := ⟨h.mono hn, h.block Bs hB⟩
theorem KeepB.put {n₀ Bs l : Nat} (W : World) (o' : Obj) (hl : n₀ ≤ l) (hs : l < W.heap.size) (hB : Bs < l) : KeepB n₀ Bs W (W.putObj l o') :=
  ⟨(Below.refl n₀ W).grown (grownBy_putObj' W l o') (by omega) (fun j e => by cases e; omega), World.putObj_heap_other (by omega)⟩
/-- The iterator gf yields f 0, .., f (N - 1), where each round goes on and keeps what lay below n₀. -/
def KnownSeq (F : Fence) (n : Nat) (P : Program) (gf : Nat) (lb : Array Value) (f : Nat → Array Value) (N n₀ Bs : Nat) (w : World) : Prop :=
  ∀ (l : Nat) (J : Nat → World → Prop) (W : World), Below w.heap.size w W →
    (∀ k W1, k < N → J k W1 → YieldAt F (n - 1) P l (f k) W1 fun e W' => e = .returned (.bool true) ∧ J (k + 1) W' ∧ KeepB n₀ Bs W1 W') →
    J 0 W → CallsIn F n P gf (#[.func (.yield l) #[] #[]] ++ lb) W fun e W' => (∃ v, e = .returned v) ∧ J N W'
/-- The body is left by its end alone. -/
def knownPost (B n₀ Bs : Nat) (I : Nat → World → Prop) (k : Nat) (W : World) : Exit → Act → World → Prop
  | .normal, _, W' => KeepsFrom B W W' ∧ KeepB n₀ Bs W W' ∧ I k W'
  | .ret, _, _ => False
  | .exit _, _, _ => False
  | .goto _, _, _ => False
  | .panic _, _, _ => False
  | .outgrown, _, _ => False

theorem range_known {F : Fence} {n : Nat} {P : Program} {g : Operand} {ps : Array Tmp} {assign body : Code} {Q : Exit → Act → World → Prop} {a : Act} {w : World} (hro : F.round = none) (h1 : 1 ≤ n)
    {gf : Nat} {lb : Array Value} (hg : a.eval g = .func (.func gf) #[] lb) (hFg : F.fn gf) (eg : ∀ args w, (callFunc gf args).run P w = .ok (.enter gf args) w)
    {f : Nat → Array Value} {N n₀ Bs : Nat} (hn₀ : n₀ ≤ w.heap.size) (hBs : Bs < w.heap.size) (hseq : KnownSeq F (n - 1) P gf lb f N n₀ Bs w) (hps : ∀ k, (f k).size = ps.size)
    (I : Nat → World → Prop) (hI : OwnFrom w.heap.size I) (h0 : I 0 w) (a₁ : Nat → Act)
    (hassign : ∀ (l k : Nat) (W : World) (K : Act → World → Prop), K (a₁ k) W →
      assign.wpIn (F.inRound l) (n - 1 - 1) P (Exit.then K (fun _ _ _ => False)) { tmps := (ps.zip (f k)).foldl (fun t (p, v) => t.setIfInBounds p v) a.tmps, defers := [] } W)
    (hbody : ∀ (l k : Nat) (W : World), k < N → I k W → body.wpIn (F.inRound l) (n - 1 - 1) P (knownPost w.heap.size n₀ Bs I (k + 1) W) (a₁ k) W)
    (hdone : ∀ (D : Nat) (W : World), w.heap.size ≤ D → I N W → W.heap[D]? = some (.deferred (some [])) → Q .normal { a with defers := { target := .collected D, args := #[] } :: a.defers } W) :
    (Code.rangeFunc g ps assign body).wpIn F n P Q a w := by
  refine wpIn_rangeFunc fun fn hfn => ?_
  obtain ⟨L, hL⟩ : ∃ L : LoopState → Loop, L = fun st => { state := st, pending := none, fn, tmps := a.tmps, params := ps, assign, body, defers := w.heap.size } := ⟨_, rfl⟩
  obtain ⟨B, hB⟩ : ∃ B, w.heap.size = B := ⟨_, rfl⟩
  obtain ⟨W0, hW0⟩ : ∃ W0, (w.alloc (.deferred (some []))).alloc (.loop (L .ready)) = W0 := ⟨_, rfl⟩
  have s0 : w.heap.size < (w.alloc (.deferred (some []))).heap.size := by simp
  have c1 : W0.heap[B + 1]? = some (.loop (L .ready)) := by
    rw [← hW0, ← hB, ← World.size_alloc w (.deferred (some []))]; exact World.alloc_heap_new _ _
  have c2 : W0.heap[B]? = some (.deferred (some [])) := by
    rw [← hW0, ← hB, Below.heap_alloc _ _ _ s0]; exact World.alloc_heap_new w _
  have c3 : I 0 W0 := by rw [← hW0]; exact hI.alloc _ (hI.alloc _ h0)
  have c4 : Below w.heap.size w W0 := by rw [← hW0]; exact ((Below.refl _ w).alloc (Nat.le_refl _) _).alloc (by omega) _
  rw [hB] at hI hbody hdone hn₀ hBs
  have keep : ∀ {k : Nat} {W : World} {o : Obj} (l : Nat) (o' : Obj), I k W → B ≤ l → W.heap[l]? = some o → o.isCells = false → I k (W.putObj l o') := fun l o' hi hl ho hc => hI.putObj o' hi hl ho hc
  refine ⟨B + 1, [{ target := .collected B, args := #[] }], W0, { target := .fn (.func gf) lb, args := #[.func (.yield (B + 1)) #[] #[]] }, W0, gf, #[.func (.yield (B + 1)) #[] #[]] ++ lb, W0, ?_, ?_, ?_, ?_, fun _ => h1, ?_⟩
  · rw [hro, ← hW0, hL, ← hB]; exact run_enterLoop_outer _ _ _ _ _
  · simp only [resolve, hg]
    simp [go_sem]
  · intro f' hf'
    simp [Target.leads] at hf'
    subst hf'
    exact hFg
  · simp [invoke, go_sem, eg]
  · refine (hseq (B + 1) (fun k W => I k W ∧ W.heap[B + 1]? = some (.loop (L .ready)) ∧ W.heap[B]? = some (.deferred (some []))) W0 c4 ?_ ⟨c3, c1, c2⟩).mono ?_
    · rintro k W hk ⟨hi, hl, hd⟩
      have hlt : B + 1 < W.heap.size := (Array.getElem?_eq_some_iff.1 hl).1
      have hy := run_yield (P := P) (args := f k) hl (by rw [hL]; exact hps k)
      have hbeg := run_beginRound (P := P) hl (by rw [hL])
      obtain ⟨X, hX⟩ : ∃ X, W.putObj (B + 1) (.loop { L .ready with state := .busy }) = X := ⟨_, rfl⟩
      rw [hX] at hbeg
      have x1 : X.heap[B + 1]? = some (.loop { L .ready with state := .busy }) := by rw [← hX]; exact World.putObj_heap_same hlt
      have x2 : X.heap[B]? = some (.deferred (some [])) := by rw [← hX]; exact (World.putObj_heap_other (by omega)).trans hd
      have x3 : I k X := by rw [← hX]; exact keep _ _ hi (by omega) hl rfl
      have x4 : KeepB n₀ Bs W X := by rw [← hX]; exact KeepB.put W _ (by omega) hlt (by omega)
      rw [hL] at hy
      refine ⟨fn, _, assign, body, hy, roundIn_of_wpIn hfn (hassign _ k W _ ⟨X, hbeg, wpIn_mono (hbody _ k X hk x3) ?_⟩)⟩
      intro e a3 W3 hp
      cases e with
      | normal =>
        obtain ⟨p1, p2, p3⟩ := hp
        have y1 := p1.same _ _ (by omega) x1 rfl
        have y2 := p1.same _ _ (Nat.le_refl _) x2 rfl
        have hlt3 : B + 1 < W3.heap.size := (Array.getElem?_eq_some_iff.1 y1).1
        have hend := run_endRound (P := P) none y1
        refine ⟨_, _, hend, rfl, ⟨keep _ _ p3 (by omega) y1 rfl, ?_, (World.putObj_heap_other (by omega)).trans y2⟩, x4.trans (p2.trans (KeepB.put W3 _ (by omega) hlt3 (by omega)))⟩
        rw [World.putObj_heap_same hlt3, hL]
        rfl
      | ret => exact hp.elim
      | exit id => exact hp.elim
      | goto t => exact hp.elim
      | panic ch => exact hp.elim
      | outgrown => exact hp.elim
    · rintro e W2 ⟨⟨v, rfl⟩, hi, hl, hd⟩
      have hend := run_endLoop (P := P) hl (by rw [hL]; simp)
      rw [show (L .ready).pending = none from by rw [hL]] at hend
      refine ⟨none, _, hend, hdone B _ (Nat.le_refl _) (keep _ _ hi (by omega) hl rfl) ((World.putObj_heap_other (by omega)).trans hd)⟩

/-- A piece of code that ends in one frame and one world. -/
def midPost (A : Act) (W : World) : Exit → Act → World → Prop
  | .normal, a, w => a = A ∧ w = W
  | .ret, _, _ => False
  | .exit _, _, _ => False
  | .goto _, _, _ => False
  | .panic _, _, _ => False
  | .outgrown, _, _ => False
theorem mid_in {F : Fence} {n : Nat} {P : Program} {c : Code} {Q : Exit → Act → World → Prop} {a A : Act} {w W : World} (h : c.wpIn F n P (midPost A W) a w) (hQ : Q .normal A W) : c.wpIn F n P Q a w := by
  refine wpIn_mono h fun e a' w' hp => ?_
  cases e with
  | normal => obtain ⟨rfl, rfl⟩ := hp; exact hQ
  | ret => exact hp.elim
  | exit id => exact hp.elim
  | goto t => exact hp.elim
  | panic ch => exact hp.elim
  | outgrown => exact hp.elim

end Go.Proofs.YtaiaillaihlhpafDoor
