/-
  Several texts in one: RefFix, RefOp1, RefOp2, RefOp3, RefOp4, Equal, RefSp, RefSo, OpEr, RefIn, RefLk, Ops1; each opens with what it holds.
-/
import Derived.Test.YtnnjajmkfgnhcaaDoorMRef
import Derived.Test.YtnnjajmkfgnhcaaDoorMOpB
import Derived.Test.YtnnjajmkfgnhcaaDoorTkn
import Derived.Test.YtnnjajmkfgnhcaaDoorRefN
import Derived.Deep.RegionLaw
import Derived.Deep.RegionHeld3
import Derived.Test.YtnnjajmkfgnhcaaDoorOwn
import Derived.Deep.RegionWith
import Derived.Deep.LoopGhost
import Derived.Deep.Light
import Derived.Deep.DrawnRows
import Derived.Test.YtnnjajmkfgnhcaaDoorPrf
import Derived.Test.YtnnjajmkfgnhcaaDoorCircM
import Derived.Test.YtnnjajmkfgnhcaaDoorMOpA
import Derived.Test.YtnnjajmkfgnhcaaDoorArr2
import Derived.BigQuiet
import Derived.Test.YtnnjajmkfgnhcaaDoorChecked
import Derived.Test.YtnnjajmkfgnhcaaDoorOps
import Derived.WalkKit
import Derived.Test.YtnnjajmkfgnhcaaDoorRefVars
/-
  A contract of tallyref's Fix: for every table of at least one variable; it makes new rows and writes nothing that was there.
-/
namespace Go.Proofs.YtnnjajmkfgnhcaaDoor
open Go.RowKit
set_option linter.unusedVariables false
attribute [local go_sem ↓] Go.wp_at_zero Go.wp_at_succ

/-- What the document asks of a table fixed at x. -/
def fixQ (f : Nat → Int) (h : Nat) (x : Int) (j : Nat) : Int := ofK (foldK (fun j => kk (f j)) h (kk x) j)
theorem fixQ_at (f : Nat → Int) (x : Int) (n h k : Nat) (hh : h = 2 ^ n) (hk : k < h) : ofK (evS (fun j => kk (f j)) (fun j => kk (catF 1 (fun _ => x) (bitF k n) j)) (n + 1)) = fixQ f h x k := by
  unfold fixQ
  rw [hh, ← evS_fix (fun j => kk (f j)) (kk x) n k (by rw [← hh]; exact hk)]
  congr 1
  refine evS_congr _ (fun _ _ => rfl) fun j hj => ?_
  unfold catF
  by_cases e : j = 0
  · rw [if_pos (by omega), if_pos e]
  · rw [if_neg (by omega), if_neg e, kk_bitF]
theorem Nums_cat (n : Nat) {f g : Nat → Int} (hf : Nums f) (hg : Nums g) : Nums (catF n f g) := fun j => by
  unfold catF
  split
  · exact hf j
  · exact hg _

set_option maxHeartbeats 4000000 in
set_option maxRecDepth 100000 in
theorem rfix_ok (b off n h cap : Nat) (f : Nat → Int) (x : Int) (w : World) (hn : n + 1 ≤ 8) (hh : h = 2 ^ n) (hr : Row w b off (2 * h) f) (hv : Nums f) (x0 : 0 ≤ x) (x1 : x ≤ 18446744073709551615) :
    Calls Tryd.prog 33 #[.slice (some ⟨b, off, none⟩) (2 * h) cap, .int .u64 x] w fun e w' => ∃ v, e = .returned v ∧ Own w' w.heap.size v h (fixQ f h x) ∧ Below w.heap.size w w' := by
  obtain ⟨i0, hi, hz0, hz1, hz2⟩ := info_parts Tryd.infoO
  have HI := hid (And.intro hi (And.intro hz0 (And.intro hz1 hz2)))
  clear hi hz0 hz1 hz2
  have h1 : 1 ≤ h := by rw [hh]; exact Nat.one_le_two_pow
  have h2 : h ≤ 256 := by rw [hh]; exact Nat.pow_le_pow_right (j := 8) (by omega) (by omega)
  have e2 : 2 * h = 2 ^ (n + 1) := by rw [Nat.pow_succ, hh, Nat.mul_comm]
  have HVA := hid (rvars_ok (some ⟨b, off, none⟩) (n + 1) (2 * h) cap w hn e2)
  have HE2 := hid e2
  have HLT := hid (hr.lt (by omega))
  have HR := hid hr
  have HV := hid hv
  have HH := hid hh
  clear hr hv hh e2
  have hd : ((2 * h : Nat) : Int) / 2 = (h : Int) := by omega
  go_enter Tryd.func33, Tryd.ntmps33
  go_wp2_with (go_at_call 8; refine (HVA.out).mono ?_; rintro e w' ⟨rfl, hw⟩; obtain rfl := hw.symm)
  clear HVA
  go_loopg [6, 7] h (fun q o i wr => ∃ (k : Nat) (v : Value), k ≤ h ∧ q = h - k ∧ o = v ∧ i = .int .i64 (k : Int) ∧ Hid (Own wr w.heap.size v k (fixQ f h x)) ∧ Hid (Below w.heap.size w wr))
  case atStart => exact ⟨0, _, by omega, rfl, rfl, rfl, hid (Own.nil _ _ _), hid (Below.refl _ _)⟩
  case round =>
    obtain ⟨k, v, hk, rfl, rfl, rfl, HO, HB⟩ := hrel
    by_cases hlt : k < h
    · go_wp2_with fail
      refine (rbits_any k n _ (by omega) (by omega)).mono ?_
      rintro e w1 ⟨vb, rfl, hob, hbb, hzb⟩
      obtain ⟨ab, cb, rfl, hpb, _⟩ := hob.is
      have hx1 : Row (wr.alloc (.cells #[.int .u64 x] 26)) wr.heap.size 0 1 (fun _ => x) := fun j hj => by
        rw [Nat.zero_add, World.cell?_alloc_new]
        match j, hj with
        | 0, _ => rfl
      have hB1 : Below wr.heap.size wr (wr.alloc (.cells #[.int .u64 x] 26)) := (Below.refl _ wr).alloc (Nat.le_refl _) _
      have hx2 := hx1.kept hbb (hx1.lt (by omega))
      have hB2 : Below wr.heap.size wr w1 := hB1.trans (hbb.mono hB1.size)
      have hA : Below w1.heap.size w1 (w1.alloc (.cells #[.slice (some ⟨wr.heap.size, 0, none⟩) 1 1, .slice ab n cb] 22)) := (Below.refl _ w1).alloc (Nat.le_refl _) _
      have HX := hid (hx2.kept hA (hx2.lt (by omega)))
      have HPB := hid (hpb.kept hA)
      have HB2 := hid (hB2.trans (hA.mono hB2.size))
      clear hob hbb hzb hpb hx1 hB1 hx2 hB2 hA
      go_wp2_with fail
      refine (joined_two w1.heap.size 2 (some ⟨wr.heap.size, 0, none⟩) ab 1 1 n cb (fun _ => x) (bitF k n) _ (by rw [World.cell?_alloc_new]; rfl) (by rw [World.cell?_alloc_new]; rfl) (PRow.of HX.out) HPB.out (by omega) (by omega)).mono ?_
      rintro e w2 ⟨vj, rfl, hoj, hbj⟩
      rw [Nat.add_comm 1 n] at hoj
      obtain ⟨aj, cj, rfl, hpj, _⟩ := hoj.is
      have hB3 := HB2.out.trans (hbj.mono HB2.out.size)
      have HPJ := hid hpj
      have HB3 := hid hB3
      clear hoj hpj hbj hB3 HPB HX HB2
      have hrw2 := (HR.out.kept HB.out HLT.out).kept HB3.out (Nat.lt_of_lt_of_le HLT.out HB.out.size)
      have hnum : Nums (catF 1 (fun _ => x) (bitF k n)) := Nums_cat 1 (fun _ => ⟨x0, x1⟩) (Nums_bitF k n)
      have hev := reval_any b off (n + 1) (2 * h) cap cj aj f _ w2 (by omega) HE2.out (by omega) hrw2 HV.out HPJ.out hnum
      rw [fixQ_at f x n h k HH.out hlt] at hev
      obtain ⟨y, hy⟩ : ∃ y, fixQ f h x k = y := ⟨_, rfl⟩
      rw [hy] at hev
      have HY := hid hy
      have HEV := hid hev
      clear hev hy hrw2 hnum
      go_wp2_with fail
      refine (HEV.out).mono ?_
      rintro e w3 ⟨rfl, hb3⟩
      have hB4 := HB3.out.trans (hb3.mono HB3.out.size)
      have HO4 := hid (HO.out.kept hB4)
      have HB4 := hid (HB.out.trans (hB4.mono HB.out.size))
      clear hb3 hB4 HEV HB3 HPJ
      go_wp2_with (at_builtin; refine wpList_append_lies _ rfl _ _ 22 rfl w.heap.size 26 i0 (.int .u64 0) 1 8 Tryd.underlying22 HI.out.1 HI.out.2.1 HI.out.2.2.1 HI.out.2.2.2 rfl (by decide) _ _ _ rfl (World.ownsRow.alloc HO4.out _) ⟨w3.heap.size, 0, none⟩ 1 1 [.int .u64 y] rfl rfl ?qc2 ?qc3 ?qc4 ?qc5 ?qc6 ?qc7 (w3.heap.size + 1) ?qc8 ?_)
      case qc2 =>
        intro j u hj
        match j, hj with
        | 0, hj => simp at hj; subst hj; simp [Addr.add]
      case qc3 => intro u hu; simp at hu; subst hu; rfl
      case qc4 => omega
      case qc5 => unfold maxLen; omega
      case qc6 => omega
      case qc7 => have := HB4.out.size; simp; omega
      case qc8 => simp
      intro g2 c2 w6 hown2 hgrow2 hat2 hlt2
      have HO6 : Hid (Own w6 w.heap.size (.slice (some ⟨g2, 0, none⟩) (k + 1) c2) (k + 1) (fixQ f h x)) := hid (by
        rw [cellsOf_snoc] at hown2
        exact Own.congr hown2 fun j hj => by
          unfold catF
          by_cases e : j < k
          · rw [if_pos e]
          · rw [if_neg e, show j = k from by omega, HY.out])
      have HB6 : Hid (Below w.heap.size w w6) := hid ((HB4.out.alloc HB4.out.size _).grown hgrow2 (by have := HB4.out.size; simp; omega) (by intro t ht; exact (World.ownsRow.lt HO4.out t ht).1))
      clear hown2 hgrow2 hat2 hlt2
      go_wp2_with fail
      go_roundg (h - (k + 1))
      case measure => go_light; omega
      case rel => exact ⟨k + 1, _, by omega, rfl, rfl, by go_num, HO6, HB6⟩
    · have e : k = h := by omega
      subst e
      go_wp2_with fail
      go_ret
      exact ⟨_, rfl, HO.out, HB.out⟩

end Go.Proofs.YtnnjajmkfgnhcaaDoor

/-
  Memory of tallyref's Opened, its first loop: tables and roots that are appended to in turns; no program in it.
-/
namespace Go.Proofs.YtnnjajmkfgnhcaaDoor
open Go.RowKit
set_option linter.unusedVariables false

/-- What holds while tables are folded: it tables, ir roots, the table that was folded ic times at hand. -/
structure Op1 (w W : World) (X n it ir ic : Nat) (f g : Nat → Int) (vT vR : Value) (A : Nat → Option Addr) (C : Nat → Nat) (bt ot ct : Nat) : Prop where
  bel : Below w.heap.size w W
  hX : w.heap.size = X
  z6 : Zero3 W X (.slice none 0 0) (.int .u64 0) (.slice none 0 0)
  c0 : W.cell? ⟨X + 1, 0, none⟩ = some vR
  c1 : W.cell? ⟨X + 1, 1, none⟩ = some (.int .u64 0)
  c2 : W.cell? ⟨X + 1, 2, none⟩ = some (.slice none 0 0)
  fz : ∀ j, j < 3 → W.frozen? ⟨X + 1, j, none⟩ = false
  tb : OwnV W (X + 1 + 1) vT it A (fun k => 2 ^ (n - k)) C (fun k => fdQ f g n k)
  rt : Own W (X + 1 + 1) vR ir (oR f g n)
  cu : Row W bt ot (2 ^ (n - ic)) (fdQ f g n ic)
  hc : 2 ^ (n - ic) ≤ ct
  n1 : ∀ q, vT.ownBlock = some q → vR.ownBlock ≠ some q
  n2 : ∀ k, k < it → ∀ a, A k = some a → vR.ownBlock ≠ some a.block ∧ a.block ≠ X + 1
  n3 : vT.ownBlock ≠ some bt ∧ vR.ownBlock ≠ some bt ∧ bt ≠ X + 1
  cs : ∀ k, k < it → 2 ^ (n - k) ≤ C k
section
variable {w W W' w6 : World} {X n it ir ic : Nat} {f g : Nat → Int} {vT vR : Value} {A : Nat → Option Addr} {C : Nat → Nat} {bt ot ct : Nat}
theorem Op1.next (h : Op1 w W X n it ir ic f g vT vR A C bt ot ct) (hb : Below W.heap.size W W') : Op1 w W' X n it ir ic f g vT vR A C bt ot ct :=
  ⟨h.bel.trans (hb.mono h.bel.size), h.hX, h.z6.kept hb, nkeep hb h.c0, nkeep hb h.c1, nkeep hb h.c2, fun j hj => (hb.frozen (p := ⟨X + 1, j, none⟩) (show X + 1 < W.heap.size from World.block_lt_of_cell? W _ h.c0)).trans (h.fz j hj), h.tb.kept hb, h.rt.kept hb, h.cu.kept hb (h.cu.lt (Nat.two_pow_pos _)), h.hc, h.n1, h.n2, h.n3, h.cs⟩
theorem Op1.low (h : Op1 w W X n it ir ic f g vT vR A C bt ot ct) : (∀ q, vT.ownBlock = some q → X + 1 + 1 ≤ q ∧ q < W.heap.size) ∧ (∀ q, vR.ownBlock = some q → X + 1 + 1 ≤ q ∧ q < W.heap.size) := ⟨fun q hq => World.ownsRow.lt h.tb.own q hq, fun q hq => World.ownsRow.lt h.rt q hq⟩
/-- What a list of the call's own is, where its block is kept. -/
theorem owns_of {w w' : World} {base s n : Nat} {t : TypeId} {v : Value} {l : List Value} (ho : w.ownsRow base t s v n l) (hk : ∀ q, v.ownBlock = some q → w'.heap[q]? = w.heap[q]?) : w'.ownsRow base t s v n l := by
  refine ⟨ho.1, ?_⟩
  rcases ho.2 with h2 | ⟨g, cap, cur, hv, hg, hh, r⟩
  · exact .inl h2
  · exact .inr ⟨g, cap, cur, hv, hg, (hk g (by rw [hv]; rfl)).trans hh, r⟩
theorem prow_of {w w' : World} {ao : Option Addr} {n : Nat} {f : Nat → Int} (hr : PRow w ao n f) (hk : ∀ a, ao = some a → w'.heap[a.block]? = w.heap[a.block]?) : PRow w' ao n f := fun h0 => by
  obtain ⟨b, off, e, hr2⟩ := hr h0
  have hh : w'.heap[b]? = w.heap[b]? := hk _ e
  exact ⟨b, off, e, fun j hj => (World.cell?_of_block (a := ⟨b, off + j, none⟩) hh).trans (hr2 j hj)⟩
theorem row_of1 {w w' : World} {b o n : Nat} {f : Nat → Int} (hr : Row w b o n f) (hk : w'.heap[b]? = w.heap[b]?) : Row w' b o n f := fun j hj => (World.cell?_of_block hk).trans (hr j hj)
theorem zero_of {w w' : World} {X : Nat} {p q r : Value} (h : Zero3 w X p q r) (hk : w'.heap[X]? = w.heap[X]?) : Zero3 w' X p q r := ⟨⟨(World.cell?_of_block hk).trans h.c.c0, (World.cell?_of_block hk).trans h.c.c1, (World.cell?_of_block hk).trans h.c.c2⟩, fun j hj => (World.frozen?_of_block (a := ⟨X, j, none⟩) hk).trans (h.f j hj)⟩
/-- The table at hand is put behind the others. -/
theorem Op1.tab {g6 c6 : Nat} {ob : Obj} (h : Op1 w W X n it ir it f g vT vR A C bt ot ct)
    (ho : w6.ownsRow (X + 1 + 1) 22 1 (.slice (some ⟨g6, 0, none⟩) (it + 1) c6) (it + 1) (slv it A (fun k => 2 ^ (n - k)) C ++ [.slice (some ⟨bt, ot, none⟩) (2 ^ (n - it)) ct])) (hg : (W.alloc ob).grownBy w6 vT.ownBlock) (hat : vT.ownBlock = some g6 ∨ g6 = W.heap.size + 1) :
    Op1 w w6 X n (it + 1) ir it f g (.slice (some ⟨g6, 0, none⟩) (it + 1) c6) vR (putO A it (some ⟨bt, ot, none⟩)) (putA C it ct) bt ot ct := by
  have b0 := nbel W ob
  have h1 := h.next b0
  have hs : (W.alloc ob).heap.size = W.heap.size + 1 := by simp
  obtain ⟨lT, lR⟩ := h.low
  have hbt : bt < W.heap.size := h.cu.lt (Nat.two_pow_pos _)
  have hk : ∀ q, q < W.heap.size → vT.ownBlock ≠ some q → w6.heap[q]? = (W.alloc ob).heap[q]? := fun q hq hn => hg.block q (by rw [hs]; omega) (fun e => hn e.symm)
  have far : ∀ q, q < W.heap.size → vT.ownBlock ≠ some q → g6 ≠ q := fun q hq hn e => by
    rcases hat with e1 | e1
    · exact hn (by rw [e1, e])
    · omega
  have kX : ∀ q, q < X + 1 + 1 → w6.heap[q]? = (W.alloc ob).heap[q]? := fun q hq => hk q (by have := World.block_lt_of_cell? W _ h.c0; have : X + 1 < W.heap.size := this; omega) (fun e => by have := (lT q e).1; omega)
  have tb6 := h1.tb.next ho hg (by rw [hs]; exact hat) (fun a e => by cases e; rw [hs]; show bt < _; omega) (fun a e => by cases e; exact h.n3.1) (PRow.of h1.cu)
  refine ⟨h1.bel.grown hg (by have := h1.bel.size; omega) (fun k hk => by have := (lT k hk).1; have := h.hX; omega), h.hX, zero_of h1.z6 (kX X (by omega)), (World.cell?_of_block (kX (X + 1) (by omega))).trans h1.c0, (World.cell?_of_block (kX (X + 1) (by omega))).trans h1.c1, (World.cell?_of_block (kX (X + 1) (by omega))).trans h1.c2, fun j hj => (World.frozen?_of_block (a := ⟨X + 1, j, none⟩) (kX (X + 1) (by omega))).trans (h1.fz j hj), ?_, owns_of h1.rt (fun q hq => hk q (lR q hq).2 (fun e => h.n1 q e hq)), row_of1 h1.cu (hk bt hbt h.n3.1), h.hc, ?_, ?_, ?_, ?_⟩
  · refine tb6.congr (fun _ _ => rfl) (fun k hk => ?_) (fun _ _ => rfl) (fun k j hk hj => ?_)
    · unfold putA; by_cases e : k = it
      · rw [if_pos e, e]
      · rw [if_neg e]
    · unfold putF; by_cases e : k = it
      · rw [if_pos e, e]
      · rw [if_neg e]
  · intro q hq e
    have hq : g6 = q := Option.some.inj hq
    subst hq
    have := lR _ e
    rcases hat with e1 | e1
    · exact h.n1 g6 e1 e
    · omega
  · intro k hk a ha
    unfold putO at ha
    by_cases e : k = it
    · rw [if_pos e] at ha; cases ha; exact ⟨h.n3.2.1, h.n3.2.2⟩
    · rw [if_neg e] at ha; exact h.n2 k (by omega) a ha
  · exact ⟨fun e => far bt hbt h.n3.1 (Option.some.inj e), h.n3.2.1, h.n3.2.2⟩
  · intro k hk
    unfold putA
    by_cases e : k = it
    · rw [if_pos e, e]; exact h.hc
    · rw [if_neg e]; exact h.cs k (by omega)
/-- The table is folded. -/
theorem Op1.fold {b2 c2 : Nat} (h : Op1 w W X n it ir ic f g vT vR A C bt ot ct) (hb : Below W.heap.size W W') (hr : Row W' b2 0 (2 ^ (n - (ic + 1))) (fdQ f g n (ic + 1))) (hlo : W.heap.size ≤ b2) (hc : 2 ^ (n - (ic + 1)) ≤ c2) : Op1 w W' X n it ir (ic + 1) f g vT vR A C b2 0 c2 := by
  have h1 := h.next hb
  obtain ⟨lT, lR⟩ := h.low
  have l7 : X + 1 < W.heap.size := World.block_lt_of_cell? W _ h.c0
  exact ⟨h1.bel, h1.hX, h1.z6, h1.c0, h1.c1, h1.c2, h1.fz, h1.tb, h1.rt, hr, hc, h1.n1, h1.n2, ⟨fun e => by have := (lT _ e).2; omega, fun e => by have := (lR _ e).2; omega, by omega⟩, h1.cs⟩
/-- Its root is put behind the others. -/
theorem Op1.root {g6 c6 : Nat} {x : Int} {t : TypeId} (h : Op1 w W X n it ir ic f g vT vR A C bt ot ct)
    (ho : w6.ownsRow (X + 1 + 1) 26 1 (.slice (some ⟨g6, 0, none⟩) (ir + 1) c6) (ir + 1) (cellsOf ir (oR f g n) ++ [.int .u64 x])) (hg : (W.alloc (.cells #[.int .u64 x] t)).grownBy w6 vR.ownBlock) (hat : vR.ownBlock = some g6 ∨ g6 = W.heap.size + 1) (hx : x = oR f g n ir) :
    (w6.cell? ⟨X + 1, 0, none⟩ = some vR ∧ w6.frozen? ⟨X + 1, 0, none⟩ = false) ∧ Op1 w (w6.setCell ⟨X + 1, 0, none⟩ (.slice (some ⟨g6, 0, none⟩) (ir + 1) c6)) X n it (ir + 1) ic f g vT (.slice (some ⟨g6, 0, none⟩) (ir + 1) c6) A C bt ot ct := by
  have b0 := nbel W (.cells #[.int .u64 x] t)
  have h1 := h.next b0
  have hs : (W.alloc (.cells #[.int .u64 x] t)).heap.size = W.heap.size + 1 := by simp
  obtain ⟨lT, lR⟩ := h.low
  have l7 : X + 1 < W.heap.size := World.block_lt_of_cell? W _ h.c0
  have hbt : bt < W.heap.size := h.cu.lt (Nat.two_pow_pos _)
  have hk : ∀ q, q < W.heap.size → vR.ownBlock ≠ some q → w6.heap[q]? = (W.alloc (.cells #[.int .u64 x] t)).heap[q]? := fun q hq hn => hg.block q (by rw [hs]; omega) (fun e => hn e.symm)
  have far : ∀ q, q < W.heap.size → vR.ownBlock ≠ some q → some g6 ≠ some q := fun q hq hn e => by
    have e := Option.some.inj e
    rcases hat with e1 | e1
    · exact hn (by rw [e1, e])
    · omega
  have kX : ∀ q, q < X + 1 + 1 → w6.heap[q]? = (W.alloc (.cells #[.int .u64 x] t)).heap[q]? := fun q hq => hk q (by omega) (fun e => by have := (lR q e).1; omega)
  have d0 := (World.cell?_of_block (a := ⟨X + 1, 0, none⟩) (kX (X + 1) (by omega))).trans h1.c0
  have d1 := (World.cell?_of_block (a := ⟨X + 1, 1, none⟩) (kX (X + 1) (by omega))).trans h1.c1
  have d2 := (World.cell?_of_block (a := ⟨X + 1, 2, none⟩) (kX (X + 1) (by omega))).trans h1.c2
  have df : ∀ j, j < 3 → w6.frozen? ⟨X + 1, j, none⟩ = false := fun j hj => (World.frozen?_of_block (a := ⟨X + 1, j, none⟩) (kX (X + 1) (by omega))).trans (h1.fz j hj)
  have hb6 : Below w.heap.size w w6 := h1.bel.grown hg (by have := h1.bel.size; omega) (fun k hk => by have := (lR k hk).1; have := h.hX; omega)
  have ks : ∀ q z, q ≠ X + 1 → (w6.setCell ⟨X + 1, 0, none⟩ z).heap[q]? = w6.heap[q]? := fun q z hq => Below.heap_setCell _ _ _ _ hq
  have kk2 : ∀ q z, q < W.heap.size → vR.ownBlock ≠ some q → q ≠ X + 1 → (w6.setCell ⟨X + 1, 0, none⟩ z).heap[q]? = (W.alloc (.cells #[.int .u64 x] t)).heap[q]? := fun q z h2 h3 h4 => (ks q z h4).trans (hk q h2 h3)
  have ho6 : Own w6 (X + 1 + 1) (.slice (some ⟨g6, 0, none⟩) (ir + 1) c6) (ir + 1) (oR f g n) := by
    rw [cellsOf_snoc] at ho
    exact Own.congr ho fun j hj => by
      unfold catF
      by_cases e : j < ir
      · rw [if_pos e]
      · rw [if_neg e, show j = ir from by omega]; exact hx
  have hg6 : X + 1 + 1 ≤ g6 := by
    rcases hat with e1 | e1
    · exact (lR _ e1).1
    · omega
  refine ⟨⟨d0, df 0 (by omega)⟩, hb6.setCell (by have := h.hX; show w.heap.size ≤ X + 1; omega) _, h.hX, zero_of h1.z6 ((ks X _ (by omega)).trans (kX X (by omega))), World.cell?_setCell_same _ _ _ d0, (World.cell?_setCell_other _ _ _ _ (by intro e; simp only [Addr.mk.injEq] at e; omega)).trans d1, (World.cell?_setCell_other _ _ _ _ (by intro e; simp only [Addr.mk.injEq] at e; omega)).trans d2, fun j hj => by rw [World.frozen?_setCell]; exact df j hj, ?_, owns_of ho6 (fun q hq => ks q _ (by have hq : g6 = q := Option.some.inj hq; omega)), row_of1 h1.cu (kk2 bt _ hbt h.n3.2.1 h.n3.2.2), h.hc, fun q hq => far q (lT q hq).2 (h.n1 q hq), ?_, ⟨h.n3.1, far bt hbt h.n3.2.1, h.n3.2.2⟩, h.cs⟩
  · refine ⟨owns_of h1.tb.own (fun q hq => kk2 q _ (lT q hq).2 (h.n1 q hq) (by have := (lT q hq).1; omega)), h1.tb.apart, fun k hk2 a ha => ?_, fun k hk2 => prow_of (h1.tb.row k hk2) (fun a ha => kk2 a.block _ (h.tb.lt k hk2 a ha) (h.n2 k hk2 a ha).1 (h.n2 k hk2 a ha).2)⟩
    rw [World.size_setCell]
    exact Nat.lt_of_lt_of_le (h1.tb.lt k hk2 a ha) hg.size
  · intro k hk2 a ha
    exact ⟨far a.block (h.tb.lt k hk2 a ha) (h.n2 k hk2 a ha).1, (h.n2 k hk2 a ha).2⟩
end

end Go.Proofs.YtnnjajmkfgnhcaaDoor

/-
  Memory of tallyref's Opened, its looks: pairs and paths that are appended to in turns, and the looks; no program in it.
-/
namespace Go.Proofs.YtnnjajmkfgnhcaaDoor
open Go.RowKit
set_option linter.unusedVariables false

def prA (P : Nat → Nat → Int) (e q : Nat) : Value := .int .u64 (P q e)
def ptA (A : Nat → Nat → Option Addr) (L C : Nat → Nat → Nat) (e q : Nat) : Value := .slice (A q e) (L q e) (C q e)
def putE {α : Type} (f : Nat → Nat → α) (k : Nat) (x y : α) (q e : Nat) : α := if q = k then (if e = 0 then x else y) else f q e
/-- One look's pairs and paths, while they are told. -/
structure Lk3 (l0 W : World) (Y kp ka : Nat) (vP vA : Value) (P : Nat → Nat → Int) (A : Nat → Nat → Option Addr) (L C : Nat → Nat → Nat) (T : Nat → Nat → Nat → Int) : Prop where
  bel : Below l0.heap.size l0 W
  hY : l0.heap.size = Y
  lt : Y + 1 ≤ W.heap.size
  c0 : W.cell? ⟨Y, 0, none⟩ = some vP
  c1 : W.cell? ⟨Y, 1, none⟩ = some vA
  f0 : W.frozen? ⟨Y, 0, none⟩ = false
  f1 : W.frozen? ⟨Y, 1, none⟩ = false
  ps : W.ownsRow (Y + 1) 41 2 vP kp (pcsV (prA P 0) (prA P 1) kp)
  pt : W.ownsRow (Y + 1) 73 2 vA ka (pcsV (ptA A L C 0) (ptA A L C 1) ka)
  rw : ∀ q, q < ka → ∀ e, e < 2 → PRow W (A q e) (L q e) (T q e)
  fr : ∀ q, q < ka → ∀ e, e < 2 → ∀ a, A q e = some a → Y + 1 ≤ a.block ∧ a.block < W.heap.size ∧ vP.ownBlock ≠ some a.block ∧ vA.ownBlock ≠ some a.block
  ne : ∀ q, vP.ownBlock = some q → vA.ownBlock ≠ some q
section
variable {l0 W W' w6 : World} {Y kp ka : Nat} {vP vA : Value} {P : Nat → Nat → Int} {A : Nat → Nat → Option Addr} {L C : Nat → Nat → Nat} {T : Nat → Nat → Nat → Int}
theorem Lk3.next (h : Lk3 l0 W Y kp ka vP vA P A L C T) (hb : Below W.heap.size W W') : Lk3 l0 W' Y kp ka vP vA P A L C T := by
  have l : Y < W.heap.size := World.block_lt_of_cell? W _ h.c0
  exact ⟨h.bel.trans (hb.mono h.bel.size), h.hY, Nat.le_trans h.lt hb.size, nkeep hb h.c0, nkeep hb h.c1, (hb.frozen (p := ⟨Y, 0, none⟩) l).trans h.f0, (hb.frozen (p := ⟨Y, 1, none⟩) l).trans h.f1, (Kp.of hb).owns h.ps, (Kp.of hb).owns h.pt, fun q hq e he => (h.rw q hq e he).kept hb, fun q hq e he a ha => ⟨(h.fr q hq e he a ha).1, Nat.lt_of_lt_of_le (h.fr q hq e he a ha).2.1 hb.size, (h.fr q hq e he a ha).2.2⟩, h.ne⟩
theorem Lk3.low (h : Lk3 l0 W Y kp ka vP vA P A L C T) : (∀ q, vP.ownBlock = some q → Y + 1 ≤ q ∧ q < W.heap.size) ∧ (∀ q, vA.ownBlock = some q → Y + 1 ≤ q ∧ q < W.heap.size) := ⟨fun q hq => World.ownsRow.lt h.ps q hq, fun q hq => World.ownsRow.lt h.pt q hq⟩
theorem Lk3.start (l0 : World) (t : TypeId) (P : Nat → Nat → Int) (A : Nat → Nat → Option Addr) (L C : Nat → Nat → Nat) (T : Nat → Nat → Nat → Int) : Lk3 l0 (l0.alloc (.cells #[.slice none 0 0, .slice none 0 0] t)) l0.heap.size 0 0 (.slice none 0 0) (.slice none 0 0) P A L C T :=
  ⟨nbel _ _, rfl, by simp, by rw [World.cell?_alloc_new]; rfl, by rw [World.cell?_alloc_new]; rfl, World.frozen?_alloc_new _ _ _ _, World.frozen?_alloc_new _ _ _ _, World.ownsRow_nil _ _ _ _, World.ownsRow_nil _ _ _ _, fun q hq => absurd hq (by omega), fun q hq => absurd hq (by omega), fun q hq => by simp [Value.ownBlock] at hq⟩
theorem Lk3.pair {g6 c6 : Nat} {x y : Int} {ob : Obj} (h : Lk3 l0 W Y kp ka vP vA P A L C T)
    (ho : w6.ownsRow (Y + 1) 41 2 (.slice (some ⟨g6, 0, none⟩) (kp + 1) c6) (kp + 1) (pcsV (prA P 0) (prA P 1) kp ++ [.int .u64 x, .int .u64 y])) (hg : (W.alloc ob).grownBy w6 vP.ownBlock) (hat : vP.ownBlock = some g6 ∨ g6 = W.heap.size + 1) (hx : x = P kp 0) (hy : y = P kp 1) :
    (w6.cell? ⟨Y, 0, none⟩ = some vP ∧ w6.frozen? ⟨Y, 0, none⟩ = false) ∧ Lk3 l0 (w6.setCell ⟨Y, 0, none⟩ (.slice (some ⟨g6, 0, none⟩) (kp + 1) c6)) Y (kp + 1) ka (.slice (some ⟨g6, 0, none⟩) (kp + 1) c6) vA P A L C T := by
  have b0 := nbel W ob
  have h1 := h.next b0
  have hs : (W.alloc ob).heap.size = W.heap.size + 1 := by simp
  obtain ⟨lP, lA⟩ := h.low
  have l : Y < W.heap.size := World.block_lt_of_cell? W _ h.c0
  have hk : ∀ q, q < W.heap.size → vP.ownBlock ≠ some q → w6.heap[q]? = (W.alloc ob).heap[q]? := fun q hq hn => hg.block q (by rw [hs]; omega) (fun e => hn e.symm)
  have far : ∀ q, q < W.heap.size → vP.ownBlock ≠ some q → some g6 ≠ some q := fun q hq hn e => by
    have e := Option.some.inj e
    rcases hat with e1 | e1
    · exact hn (by rw [e1, e])
    · omega
  have kY : w6.heap[Y]? = (W.alloc ob).heap[Y]? := hk Y l (fun e => by have := (lP Y e).1; omega)
  have ks : ∀ q z, q ≠ Y → (w6.setCell ⟨Y, 0, none⟩ z).heap[q]? = w6.heap[q]? := fun q z hq => Below.heap_setCell _ _ _ _ hq
  have hb6 : Below l0.heap.size l0 w6 := h1.bel.grown hg (by have := h1.bel.size; omega) (fun k hk => by have := (lP k hk).1; have := h.hY; omega)
  have d0 := (World.cell?_of_block (a := ⟨Y, 0, none⟩) kY).trans h1.c0
  have d1 := (World.cell?_of_block (a := ⟨Y, 1, none⟩) kY).trans h1.c1
  have e0 := (World.frozen?_of_block (a := ⟨Y, 0, none⟩) kY).trans h1.f0
  have e1 := (World.frozen?_of_block (a := ⟨Y, 1, none⟩) kY).trans h1.f1
  have hg6 : Y + 1 ≤ g6 := by
    rcases hat with e1 | e1
    · exact (lP _ e1).1
    · omega
  have hps : w6.ownsRow (Y + 1) 41 2 (.slice (some ⟨g6, 0, none⟩) (kp + 1) c6) (kp + 1) (pcsV (prA P 0) (prA P 1) (kp + 1)) := by rw [← pcsV_snoc]; unfold prA; rw [← hx, ← hy]; exact ho
  refine ⟨⟨d0, e0⟩, hb6.setCell (by have := h.hY; show l0.heap.size ≤ Y; omega) _, h.hY, by rw [World.size_setCell]; exact Nat.le_trans (Nat.le_trans h.lt b0.size) hg.size, World.cell?_setCell_same _ _ _ d0, (World.cell?_setCell_other _ _ _ _ (by intro e; simp only [Addr.mk.injEq] at e; omega)).trans d1, by rw [World.frozen?_setCell]; exact e0, by rw [World.frozen?_setCell]; exact e1, owns_of hps (fun q hq => ks q _ (by have hq : g6 = q := Option.some.inj hq; omega)), owns_of h1.pt (fun q hq => (ks q _ (by have := (lA q hq).1; omega)).trans (hk q (lA q hq).2 (fun e => h.ne q e hq))), fun q hq e he => prow_of (h1.rw q hq e he) (fun a ha => (ks _ _ (by have := (h.fr q hq e he a ha).1; omega)).trans (hk _ (h.fr q hq e he a ha).2.1 (h.fr q hq e he a ha).2.2.1)), fun q hq e he a ha => ?_, fun q hq e => ?_⟩
  · obtain ⟨r1, r2, r3, r4⟩ := h.fr q hq e he a ha
    exact ⟨r1, by rw [World.size_setCell]; exact Nat.lt_of_lt_of_le r2 (Nat.le_trans b0.size hg.size), far _ r2 r3, r4⟩
  · have hq : g6 = q := Option.some.inj hq
    subst hq
    rcases hat with e2 | e2
    · exact h.ne g6 e2 e
    · have := (lA _ e).2; omega
theorem Lk3.path {g6 c6 l0' l1' s0 s1 : Nat} {a0 a1 : Option Addr} {t0 t1 : Nat → Int} {ob : Obj} (h : Lk3 l0 W Y kp ka vP vA P A L C T)
    (ho : w6.ownsRow (Y + 1) 73 2 (.slice (some ⟨g6, 0, none⟩) (ka + 1) c6) (ka + 1) (pcsV (ptA A L C 0) (ptA A L C 1) ka ++ [.slice a0 l0' s0, .slice a1 l1' s1])) (hg : (W.alloc ob).grownBy w6 vA.ownBlock) (hat : vA.ownBlock = some g6 ∨ g6 = W.heap.size + 1)
    (r0 : PRow W a0 l0' t0) (r1 : PRow W a1 l1' t1) (b0' : ∀ a, a0 = some a → Y + 1 ≤ a.block ∧ a.block < W.heap.size ∧ vP.ownBlock ≠ some a.block ∧ vA.ownBlock ≠ some a.block) (b1' : ∀ a, a1 = some a → Y + 1 ≤ a.block ∧ a.block < W.heap.size ∧ vP.ownBlock ≠ some a.block ∧ vA.ownBlock ≠ some a.block) :
    (w6.cell? ⟨Y, 1, none⟩ = some vA ∧ w6.frozen? ⟨Y, 1, none⟩ = false) ∧ Lk3 l0 (w6.setCell ⟨Y, 1, none⟩ (.slice (some ⟨g6, 0, none⟩) (ka + 1) c6)) Y kp (ka + 1) vP (.slice (some ⟨g6, 0, none⟩) (ka + 1) c6) P (putE A ka a0 a1) (putE L ka l0' l1') (putE C ka s0 s1) (putE T ka t0 t1) := by
  have b0 := nbel W ob
  have h1 := h.next b0
  have hs : (W.alloc ob).heap.size = W.heap.size + 1 := by simp
  obtain ⟨lP, lA⟩ := h.low
  have l : Y < W.heap.size := World.block_lt_of_cell? W _ h.c0
  have hk : ∀ q, q < W.heap.size → vA.ownBlock ≠ some q → w6.heap[q]? = (W.alloc ob).heap[q]? := fun q hq hn => hg.block q (by rw [hs]; omega) (fun e => hn e.symm)
  have far : ∀ q, q < W.heap.size → vA.ownBlock ≠ some q → some g6 ≠ some q := fun q hq hn e => by
    have e := Option.some.inj e
    rcases hat with e1 | e1
    · exact hn (by rw [e1, e])
    · omega
  have kY : w6.heap[Y]? = (W.alloc ob).heap[Y]? := hk Y l (fun e => by have := (lA Y e).1; omega)
  have ks : ∀ q z, q ≠ Y → (w6.setCell ⟨Y, 1, none⟩ z).heap[q]? = w6.heap[q]? := fun q z hq => Below.heap_setCell _ _ _ _ hq
  have hb6 : Below l0.heap.size l0 w6 := h1.bel.grown hg (by have := h1.bel.size; omega) (fun k hk => by have := (lA k hk).1; have := h.hY; omega)
  have d0 := (World.cell?_of_block (a := ⟨Y, 0, none⟩) kY).trans h1.c0
  have d1 := (World.cell?_of_block (a := ⟨Y, 1, none⟩) kY).trans h1.c1
  have e0 := (World.frozen?_of_block (a := ⟨Y, 0, none⟩) kY).trans h1.f0
  have e1 := (World.frozen?_of_block (a := ⟨Y, 1, none⟩) kY).trans h1.f1
  have hg6 : Y + 1 ≤ g6 := by
    rcases hat with e1 | e1
    · exact (lA _ e1).1
    · omega
  have all : ∀ q, q < ka + 1 → ∀ e, e < 2 → PRow W (putE A ka a0 a1 q e) (putE L ka l0' l1' q e) (putE T ka t0 t1 q e) ∧ ∀ a, putE A ka a0 a1 q e = some a → Y + 1 ≤ a.block ∧ a.block < W.heap.size ∧ vP.ownBlock ≠ some a.block ∧ vA.ownBlock ≠ some a.block := fun q hq e he => by
    unfold putE
    by_cases e2 : q = ka
    · rw [if_pos e2, if_pos e2, if_pos e2]
      by_cases e3 : e = 0
      · rw [if_pos e3, if_pos e3, if_pos e3]; exact ⟨r0, b0'⟩
      · rw [if_neg e3, if_neg e3, if_neg e3]; exact ⟨r1, b1'⟩
    · rw [if_neg e2, if_neg e2, if_neg e2]; exact ⟨h.rw q (by omega) e he, h.fr q (by omega) e he⟩
  have hpt : w6.ownsRow (Y + 1) 73 2 (.slice (some ⟨g6, 0, none⟩) (ka + 1) c6) (ka + 1) (pcsV (ptA (putE A ka a0 a1) (putE L ka l0' l1') (putE C ka s0 s1) 0) (ptA (putE A ka a0 a1) (putE L ka l0' l1') (putE C ka s0 s1) 1) (ka + 1)) := by
    rw [← pcsV_snoc]
    have q0 : pcsV (ptA (putE A ka a0 a1) (putE L ka l0' l1') (putE C ka s0 s1) 0) (ptA (putE A ka a0 a1) (putE L ka l0' l1') (putE C ka s0 s1) 1) ka = pcsV (ptA A L C 0) (ptA A L C 1) ka := pcsV_congr (fun j hj => by unfold ptA putE; rw [if_neg (by omega), if_neg (by omega), if_neg (by omega)]) (fun j hj => by unfold ptA putE; rw [if_neg (by omega), if_neg (by omega), if_neg (by omega)])
    have q1 : ptA (putE A ka a0 a1) (putE L ka l0' l1') (putE C ka s0 s1) 0 ka = .slice a0 l0' s0 := by unfold ptA putE; simp
    have q2 : ptA (putE A ka a0 a1) (putE L ka l0' l1') (putE C ka s0 s1) 1 ka = .slice a1 l1' s1 := by unfold ptA putE; simp
    rw [q0, q1, q2]
    exact ho
  refine ⟨⟨d1, e1⟩, hb6.setCell (by have := h.hY; show l0.heap.size ≤ Y; omega) _, h.hY, by rw [World.size_setCell]; exact Nat.le_trans (Nat.le_trans h.lt b0.size) hg.size, (World.cell?_setCell_other _ _ _ _ (by intro e; simp only [Addr.mk.injEq] at e; omega)).trans d0, World.cell?_setCell_same _ _ _ d1, by rw [World.frozen?_setCell]; exact e0, by rw [World.frozen?_setCell]; exact e1, owns_of h1.ps (fun q hq => (ks q _ (by have := (lP q hq).1; omega)).trans (hk q (lP q hq).2 (h.ne q hq))), owns_of hpt (fun q hq => ks q _ (by have hq : g6 = q := Option.some.inj hq; omega)), fun q hq e he => prow_of ((all q hq e he).1.kept b0) (fun a ha => (ks _ _ (by have := ((all q hq e he).2 a ha).1; omega)).trans (hk _ ((all q hq e he).2 a ha).2.1 ((all q hq e he).2 a ha).2.2.2)), fun q hq e he a ha => ?_, fun q hq => far q (lP q hq).2 (h.ne q hq)⟩
  obtain ⟨s1, s2, s3, s4⟩ := (all q hq e he).2 a ha
  exact ⟨s1, by rw [World.size_setCell]; exact Nat.lt_of_lt_of_le s2 (Nat.le_trans b0.size hg.size), s3, far _ s2 s4⟩
end

end Go.Proofs.YtnnjajmkfgnhcaaDoor

/-
  Memory of tallyref's Opened: the looks as they are put behind each other; no program in it.
-/
namespace Go.Proofs.YtnnjajmkfgnhcaaDoor
open Go.RowKit
set_option linter.unusedVariables false

def paV (m : OM) (o : OQ) (j : Nat) : Value := .slice (m.pa j) (o.np j) (m.pc j)
def taV (m : OM) (o : OQ) (j : Nat) : Value := .slice (m.ta j) (o.nt j) (m.tc j)
def LookR (W : World) (o : OQ) (m : OM) (j : Nat) : Prop := QRow W (m.pa j) (o.np j) (o.P j) ∧ TRow W (m.ta j) (o.nt j) (m.A j) (o.tl j) (m.C j) (o.T j)
def LookA (S : Nat → Prop) (o : OQ) (m : OM) (j : Nat) : Prop := (∀ a, m.pa j = some a → S a.block) ∧ (∀ a, m.ta j = some a → S a.block) ∧ ∀ k, k < o.nt j → ∀ e, e < 2 → ∀ a, m.A j k e = some a → S a.block
theorem LookA.mono {S S' : Nat → Prop} {o : OQ} {m : OM} {j : Nat} (h : LookA S o m j) (hs : ∀ b, S b → S' b) : LookA S' o m j := ⟨fun a e => hs _ (h.1 a e), fun a e => hs _ (h.2.1 a e), fun k hk e he a ha => hs _ (h.2.2 k hk e he a ha)⟩
theorem LookR.keep {W W' : World} {S : Nat → Prop} {o : OQ} {m : OM} {j : Nat} (h : LookR W o m j) (ha : LookA S o m j) (hk : ∀ b, S b → W'.heap[b]? = W.heap[b]?) : LookR W' o m j := by
  refine ⟨fun h0 => ?_, fun h0 => ?_⟩
  · obtain ⟨b, off, e, hr⟩ := h.1 h0
    have hh : W'.heap[b]? = W.heap[b]? := hk b (ha.1 _ e)
    exact ⟨b, off, e, fun k hk2 => ⟨(World.cell?_of_block (a := ⟨b, off + 2 * k, none⟩) hh).trans (hr k hk2).1, (World.cell?_of_block (a := ⟨b, off + 2 * k + 1, none⟩) hh).trans (hr k hk2).2⟩⟩
  · obtain ⟨b, off, e, hr⟩ := h.2 h0
    have hh : W'.heap[b]? = W.heap[b]? := hk b (ha.2.1 _ e)
    refine ⟨b, off, e, fun k hk2 => ?_⟩
    obtain ⟨h1, h2, h3, h4⟩ := hr k hk2
    exact ⟨(World.cell?_of_block (a := ⟨b, off + 2 * k, none⟩) hh).trans h1, (World.cell?_of_block (a := ⟨b, off + 2 * k + 1, none⟩) hh).trans h2, prow_of h3 (fun a e2 => hk _ (ha.2.2 k hk2 0 (by omega) a e2)), prow_of h4 (fun a e2 => hk _ (ha.2.2 k hk2 1 (by omega) a e2))⟩
/-- Looks of the call's own. -/
structure LooksS (W : World) (base : Nat) (v : Value) (t : Nat) (o : OQ) (m : OM) : Prop where
  own : W.ownsRow base 72 2 v t (pcsV (paV m o) (taV m o) t)
  look : ∀ j, j < t → LookR W o m j
  far : ∀ j, j < t → LookA (fun b => base ≤ b ∧ b < W.heap.size ∧ v.ownBlock ≠ some b) o m j
theorem LooksS.nil (W : World) (base : Nat) (o : OQ) (m : OM) : LooksS W base (.slice none 0 0) 0 o m := ⟨World.ownsRow_nil _ _ _ _, fun j hj => absurd hj (by omega), fun j hj => absurd hj (by omega)⟩
theorem LooksS.keep {W W' : World} {base : Nat} {v : Value} {t : Nat} {o : OQ} {m : OM} (h : LooksS W base v t o m) (k : Kp base W W') : LooksS W' base v t o m :=
  ⟨k.owns h.own, fun j hj => (h.look j hj).keep (h.far j hj) (fun b hb => k.block b hb.1 hb.2.1), fun j hj => (h.far j hj).mono fun b hb => ⟨hb.1, Nat.lt_of_lt_of_le hb.2.1 k.size, hb.2.2⟩⟩
def OM.put (m : OM) (t : Nat) (pa ta : Option Addr) (pc tc : Nat) (A : Nat → Nat → Option Addr) (C : Nat → Nat → Nat) : OM :=
  ⟨fun j => if j = t then pa else m.pa j, fun j => if j = t then ta else m.ta j, fun j => if j = t then pc else m.pc j, fun j => if j = t then tc else m.tc j, fun j => if j = t then A else m.A j, fun j => if j = t then C else m.C j⟩
theorem OM.put_at (m : OM) (t : Nat) (pa ta : Option Addr) (pc tc : Nat) (A : Nat → Nat → Option Addr) (C : Nat → Nat → Nat) : (m.put t pa ta pc tc A C).pa t = pa ∧ (m.put t pa ta pc tc A C).ta t = ta ∧ (m.put t pa ta pc tc A C).pc t = pc ∧ (m.put t pa ta pc tc A C).tc t = tc ∧ (m.put t pa ta pc tc A C).A t = A ∧ (m.put t pa ta pc tc A C).C t = C :=
  ⟨if_pos rfl, if_pos rfl, if_pos rfl, if_pos rfl, if_pos rfl, if_pos rfl⟩
theorem OM.put_off (m : OM) {t j : Nat} (h : j ≠ t) (pa ta : Option Addr) (pc tc : Nat) (A : Nat → Nat → Option Addr) (C : Nat → Nat → Nat) : (m.put t pa ta pc tc A C).pa j = m.pa j ∧ (m.put t pa ta pc tc A C).ta j = m.ta j ∧ (m.put t pa ta pc tc A C).pc j = m.pc j ∧ (m.put t pa ta pc tc A C).tc j = m.tc j ∧ (m.put t pa ta pc tc A C).A j = m.A j ∧ (m.put t pa ta pc tc A C).C j = m.C j :=
  ⟨if_neg h, if_neg h, if_neg h, if_neg h, if_neg h, if_neg h⟩
theorem LooksS.next {W W' : World} {base : Nat} {v : Value} {t : Nat} {o : OQ} {m : OM} {g cap pc tc : Nat} {pa ta : Option Addr} {A : Nat → Nat → Option Addr} {C : Nat → Nat → Nat} (h : LooksS W base v t o m)
    (ho : W'.ownsRow base 72 2 (.slice (some ⟨g, 0, none⟩) (t + 1) cap) (t + 1) (pcsV (paV m o) (taV m o) t ++ [.slice pa (o.np t) pc, .slice ta (o.nt t) tc])) (hg : W.grownBy W' v.ownBlock) (hat : v.ownBlock = some g ∨ g = W.heap.size)
    (hr : LookR W o (m.put t pa ta pc tc A C) t) (hf : LookA (fun b => base ≤ b ∧ b < W.heap.size ∧ v.ownBlock ≠ some b) o (m.put t pa ta pc tc A C) t) :
    LooksS W' base (.slice (some ⟨g, 0, none⟩) (t + 1) cap) (t + 1) o (m.put t pa ta pc tc A C) := by
  have far : ∀ k, k < W.heap.size → v.ownBlock ≠ some k → some g ≠ some k := fun k hk hk2 e => by
    rcases hat with e1 | e1
    · exact hk2 (e1.trans e)
    · have := Option.some.inj e; omega
  obtain ⟨q1, q2, q3, q4, q5, q6⟩ := m.put_at t pa ta pc tc A C
  have all : ∀ j, j < t + 1 → LookR W o (m.put t pa ta pc tc A C) j ∧ LookA (fun b => base ≤ b ∧ b < W.heap.size ∧ v.ownBlock ≠ some b) o (m.put t pa ta pc tc A C) j := fun j hj => by
    by_cases e : j = t
    · subst e; exact ⟨hr, hf⟩
    · obtain ⟨o1, o2, o3, o4, o5, o6⟩ := m.put_off e pa ta pc tc A C
      unfold LookR LookA
      rw [o1, o2, o5, o6]
      exact ⟨h.look j (by omega), h.far j (by omega)⟩
  refine ⟨?_, fun j hj => (all j hj).1.keep (all j hj).2 (fun b hb => hg.block b hb.2.1 (fun e => hb.2.2 e.symm)), fun j hj => (all j hj).2.mono fun b hb => ⟨hb.1, Nat.lt_of_lt_of_le hb.2.1 hg.size, far b hb.2.1 hb.2.2⟩⟩
  rw [← pcsV_snoc]
  have e1 : pcsV (paV (m.put t pa ta pc tc A C) o) (taV (m.put t pa ta pc tc A C) o) t = pcsV (paV m o) (taV m o) t := pcsV_congr (fun j hj => by
    obtain ⟨o1, o2, o3, o4, o5, o6⟩ := m.put_off (show j ≠ t by omega) pa ta pc tc A C
    unfold paV; rw [o1, o3]) (fun j hj => by
    obtain ⟨o1, o2, o3, o4, o5, o6⟩ := m.put_off (show j ≠ t by omega) pa ta pc tc A C
    unfold taV; rw [o2, o4])
  rw [e1]
  have e2 : paV (m.put t pa ta pc tc A C) o t = .slice pa (o.np t) pc := by unfold paV; rw [q1, q3]
  have e3 : taV (m.put t pa ta pc tc A C) o t = .slice ta (o.nt t) tc := by unfold taV; rw [q2, q4]
  rw [e2, e3]
  exact ho
theorem LooksS.all {W : World} {base : Nat} {v : Value} {o : OQ} {m : OM} (h : LooksS W base v o.n o m) : ∃ ao cap, v = .slice ao o.n cap ∧ OpRow W ao o m ∧ ∀ a, ao = some a → base ≤ a.block := by
  rcases h.own.2 with ⟨rfl, h0⟩ | ⟨g, cap, cur, rfl, hb, _⟩
  · exact ⟨none, 0, by rw [h0], fun h1 => absurd h1 (by omega), fun a e => by cases e⟩
  · refine ⟨some ⟨g, 0, none⟩, cap, rfl, fun _ => ⟨g, 0, rfl, fun j hj => ?_⟩, fun a e => by cases e; exact hb⟩
    have c0 := h.own.cellAt (j * 2) (by omega)
    have c1 := h.own.cellAt (j * 2 + 1) (by omega)
    rw [pcsV_at _ _ _ _ (by omega), pcV, if_pos (by omega), show j * 2 / 2 = j from by omega] at c0
    rw [pcsV_at _ _ _ _ (by omega), pcV, if_neg (by omega), show (j * 2 + 1) / 2 = j from by omega] at c1
    rw [show 0 + 2 * j = j * 2 from by omega]
    exact ⟨c0, c1, (h.look j hj).1, (h.look j hj).2⟩
/-- The opening's box, while looks are told. -/
structure Op2 (L0 W : World) (X t : Nat) (vR vK : Value) (val : Int) (o : OQ) (m : OM) : Prop where
  but : ButS (fun c => c = X + 1) L0 W
  lt : X + 1 < L0.heap.size
  c0 : W.cell? ⟨X + 1, 0, none⟩ = some vR
  c1 : W.cell? ⟨X + 1, 1, none⟩ = some (.int .u64 val)
  c2 : W.cell? ⟨X + 1, 2, none⟩ = some vK
  f2 : W.frozen? ⟨X + 1, 2, none⟩ = false
  ks : LooksS W L0.heap.size vK t o m
theorem Op2.next {L0 W W' : World} {X t : Nat} {vR vK : Value} {val : Int} {o : OQ} {m : OM} (h : Op2 L0 W X t vR vK val o m) (hb : Below W.heap.size W W') : Op2 L0 W' X t vR vK val o m :=
  ⟨h.but.trans (ButS.of hb), h.lt, nkeep hb h.c0, nkeep hb h.c1, nkeep hb h.c2, (hb.frozen (World.block_lt_of_cell? W _ h.c2)).trans h.f2, h.ks.keep (Kp.of hb)⟩
theorem Op2.put {L0 W w6 : World} {X t : Nat} {vR vK : Value} {val : Int} {o : OQ} {m : OM} {g6 c6 pc tc : Nat} {pa ta : Option Addr} {A : Nat → Nat → Option Addr} {C : Nat → Nat → Nat} {ob : Obj} (h : Op2 L0 W X t vR vK val o m)
    (ho : w6.ownsRow L0.heap.size 72 2 (.slice (some ⟨g6, 0, none⟩) (t + 1) c6) (t + 1) (pcsV (paV m o) (taV m o) t ++ [.slice pa (o.np t) pc, .slice ta (o.nt t) tc])) (hg : (W.alloc ob).grownBy w6 vK.ownBlock) (hat : vK.ownBlock = some g6 ∨ g6 = W.heap.size + 1)
    (hr : LookR W o (m.put t pa ta pc tc A C) t) (hf : LookA (fun b => L0.heap.size ≤ b ∧ b < W.heap.size ∧ vK.ownBlock ≠ some b) o (m.put t pa ta pc tc A C) t) :
    (w6.cell? ⟨X + 1, 2, none⟩ = some vK ∧ w6.frozen? ⟨X + 1, 2, none⟩ = false) ∧ Op2 L0 (w6.setCell ⟨X + 1, 2, none⟩ (.slice (some ⟨g6, 0, none⟩) (t + 1) c6)) X (t + 1) vR (.slice (some ⟨g6, 0, none⟩) (t + 1) c6) val o (m.put t pa ta pc tc A C) := by
  have b0 := nbel W ob
  have h1 := h.next b0
  have hs : (W.alloc ob).heap.size = W.heap.size + 1 := by simp
  have hlow : ∀ k, vK.ownBlock = some k → L0.heap.size ≤ k := fun k hk => (World.ownsRow.lt h.ks.own k hk).1
  have hlt := h.lt
  have kX : w6.heap[X + 1]? = (W.alloc ob).heap[X + 1]? := hg.block (X + 1) (Nat.lt_of_lt_of_le hlt h1.but.size) (fun e => by have := hlow _ e.symm; omega)
  have d0 := (World.cell?_of_block (a := ⟨X + 1, 0, none⟩) kX).trans h1.c0
  have d1 := (World.cell?_of_block (a := ⟨X + 1, 1, none⟩) kX).trans h1.c1
  have d2 := (World.cell?_of_block (a := ⟨X + 1, 2, none⟩) kX).trans h1.c2
  have e2 := (World.frozen?_of_block (a := ⟨X + 1, 2, none⟩) kX).trans h1.f2
  have hb6 : ButS (fun c => c = X + 1) L0 w6 := ⟨hg.os.trans h1.but.os, hg.tape.trans h1.but.tape, hg.output.trans h1.but.output, Nat.le_trans h1.but.size hg.size, fun k hk hn => (hg.block k (Nat.lt_of_lt_of_le hk h1.but.size) (fun e => by have := hlow k e.symm; omega)).trans (h1.but.block k hk hn)⟩
  have hr1 : LookR (W.alloc ob) o (m.put t pa ta pc tc A C) t := hr.keep hf (fun b hb => b0.block b hb.2.1)
  have ks := h1.ks.next ho hg (by rw [hs]; exact hat) hr1 (hf.mono fun b hb => ⟨hb.1, by rw [hs]; omega, hb.2.2⟩)
  exact ⟨⟨d2, e2⟩, hb6.set rfl _, hlt, (World.cell?_setCell_other _ _ _ _ (by intro e; simp only [Addr.mk.injEq] at e; omega)).trans d0, (World.cell?_setCell_other _ _ _ _ (by intro e; simp only [Addr.mk.injEq] at e; omega)).trans d1, World.cell?_setCell_same _ _ _ d2, by rw [World.frozen?_setCell]; exact e2, ks.keep (Kp.set _ _ _ (by omega))⟩

end Go.Proofs.YtnnjajmkfgnhcaaDoor

/-
  A contract of tallyref's Opened, of a table, a point and places that may be: it tells the right opening; nothing that was there is written.
-/
namespace Go.Proofs.YtnnjajmkfgnhcaaDoor
open Go.RowKit
set_option linter.unusedVariables false
attribute [local go_sem ↓] Go.wp_at_zero Go.wp_at_succ

theorem own_some1 {w : World} {base : Nat} {v : Value} {n : Nat} {f : Nat → Int} (h : Own w base v n f) (hn : 0 < n) : ∃ b c, v = .slice (some ⟨b, 0, none⟩) n c ∧ n ≤ c ∧ Row w b 0 n f ∧ base ≤ b ∧ b < w.heap.size := by
  have hl := h
  rcases h.2 with ⟨_, h0⟩ | ⟨b, cap, cur, rfl, hb, hh, hle, _⟩
  · omega
  · obtain ⟨ao, c, e, hp, _⟩ := hl.is
    obtain ⟨b2, o2, e2, hr⟩ := hp hn
    cases e
    cases e2
    exact ⟨b, cap, rfl, hle, hr, hb, (Array.getElem?_eq_some_iff.1 hh).1⟩
theorem fold_fix (f : Nat → Int) (h : Nat) (x : Int) (j : Nat) : fldF f h x j = fixQ f h x j := by
  unfold fldF fixQ foldK
  rw [addQ_ofK, kk_mulQ, kk_subQ]
theorem Op1.start {w : World} {n b off cap : Nat} {f g : Nat → Int} (t0 t1 : TypeId) (hr : Row w b off (2 ^ n) f) (hc : 2 ^ n ≤ cap) : Op1 w ((w.alloc (.cells #[.slice none 0 0, .int .u64 0, .slice none 0 0] t0)).alloc (.cells #[.slice none 0 0, .int .u64 0, .slice none 0 0] t1)) w.heap.size n 0 0 0 f g (.slice none 0 0) (.slice none 0 0) (fun _ => none) (fun _ => 0) b off cap := by
  have b0 := nbel w (.cells #[.slice none 0 0, .int .u64 0, .slice none 0 0] t0)
  have z0 := Zero3.new w (.slice none 0 0) (.int .u64 0) (.slice none 0 0) t0
  have hs : (w.alloc (.cells #[.slice none 0 0, .int .u64 0, .slice none 0 0] t0)).heap.size = w.heap.size + 1 := by simp
  generalize w.alloc (.cells #[.slice none 0 0, .int .u64 0, .slice none 0 0] t0) = W0 at b0 z0 hs ⊢
  have b1 := nbel W0 (.cells #[.slice none 0 0, .int .u64 0, .slice none 0 0] t1)
  have z1 := Zero3.new W0 (.slice none 0 0) (.int .u64 0) (.slice none 0 0) t1
  rw [hs] at z1
  have hl := hr.lt (Nat.two_pow_pos n)
  have hb := b0.trans (b1.mono b0.size)
  exact ⟨hb, rfl, z0.kept b1, z1.c.c0, z1.c.c1, z1.c.c2, z1.f, OwnV.nil _ _ _ _ _ _, Own.nil _ _ _, hr.kept hb hl, hc, fun q hq => by simp [Value.ownBlock] at hq, fun k hk => absurd hk (by omega), ⟨by simp [Value.ownBlock], by simp [Value.ownBlock], by omega⟩, fun k hk => absurd hk (by omega)⟩
/-- What Opened tells of right things. -/
def openedOut (f g : Nat → Int) (n m : Nat) (pl : Nat → Nat) (w : World) (e : Ending) (w' : World) : Prop := ∃ (ar al : Option Addr) (cr cl : Nat) (mm : OM), e = .returned (.agg #[.slice ar n cr, .int .u64 (fdQ f g n n 0), .slice al m cl]) ∧ PRow w' ar n (oR f g n) ∧ OpRow w' al (rightO f g n m pl) mm ∧ ((∀ a, ar = some a → w.heap.size ≤ a.block) ∧ (∀ a, al = some a → w.heap.size ≤ a.block) ∧ ∀ j, j < m → LookA (fun b => w.heap.size ≤ b) (rightO f g n m pl) mm j) ∧ Below w.heap.size w w'

theorem grown_undrew {W w6 : World} {o : Option Nat} (h : W.drew.grownBy w6 o) : W.grownBy w6 o := ⟨h.1, h.2, h.3, h.4, h.5⟩
theorem news_two (w : World) (x y : Value) (t : TypeId) : ∀ j u, [x, y][j]? = some u → (w.alloc (.cells #[x, y] t)).cell? ((⟨w.heap.size, 0, none⟩ : Addr).add j) = some u := by
  intro j u hj
  match j, hj with
  | 0, hj => simp at hj; subst hj; simp [Addr.add]
  | 1, hj => simp at hj; subst hj; simp [Addr.add]
theorem two_one (x y : Int) : ∀ u ∈ [Value.int .u64 x, Value.int .u64 y], u.oneCell' = true := by
  intro u hu
  simp at hu
  rcases hu with hu | hu <;> subst hu <;> rfl
theorem two_one' (a0 a1 : Option Addr) (l0 l1 s0 s1 : Nat) : ∀ u ∈ [Value.slice a0 l0 s0, Value.slice a1 l1 s1], u.oneCell' = true := by
  intro u hu
  simp at hu
  rcases hu with hu | hu <;> subst hu <;> rfl
/-- The tables, wherever all but the opening's box is kept. -/
theorem Op1.tabs {w W : World} {X n it ir ic : Nat} {f g : Nat → Int} {vT vR : Value} {A : Nat → Option Addr} {C : Nat → Nat} {bt ot ct : Nat} (h : Op1 w W X n it ir ic f g vT vR A C bt ot ct) (W' : World) (hk : ∀ q, q < W.heap.size → q ≠ X + 1 → W'.heap[q]? = W.heap[q]?) : ∃ aT cT, vT = .slice aT it cT ∧ LRow W' aT it A (fun k => 2 ^ (n - k)) C (fun k => fdQ f g n k) := by
  have ho : W'.ownsRow (X + 1 + 1) 22 1 vT it (slv it A (fun k => 2 ^ (n - k)) C) := owns_of h.tb.own (fun q hq => hk q (World.ownsRow.lt h.tb.own q hq).2 (by have := (World.ownsRow.lt h.tb.own q hq).1; omega))
  have hr : ∀ k, k < it → PRow W' (A k) (2 ^ (n - k)) (fdQ f g n k) := fun k hk2 => prow_of (h.tb.row k hk2) (fun a ha => hk _ (h.tb.lt k hk2 a ha) (h.n2 k hk2 a ha).2)
  rcases ho.2 with ⟨rfl, rfl⟩ | ⟨g, cap, cur, rfl, _, _, hle, _⟩
  · exact ⟨none, 0, rfl, fun h0 => by omega⟩
  · refine ⟨some ⟨g, 0, none⟩, cap, rfl, fun _ => ⟨g, 0, rfl, fun i hi => ⟨?_, hr i hi⟩⟩⟩
    rw [Nat.zero_add, ho.cellAt i (by omega), slv_at it A _ C i hi]
theorem pow_half {n k : Nat} (hk : k < n) : 2 ^ (n - k) = 2 * hfQ n k := (hfQ_all hk).symm
/-- What holds behind the first loop. -/
structure Opm (w L0 : World) (X n : Nat) (f g : Nat → Int) (vT vR : Value) (aT : Option Addr) (cT : Nat) (A : Nat → Option Addr) (C : Nat → Nat) : Prop where
  bel : Below w.heap.size w L0
  hX : w.heap.size = X
  lt : X + 1 < L0.heap.size
  eT : vT = .slice aT n cT
  tb : ∀ W, ButS (fun c => c = X + 1) L0 W → LRow W aT n A (fun k => 2 ^ (n - k)) C (fun k => fdQ f g n k)
  rt : ∀ W, ButS (fun c => c = X + 1) L0 W → Own W (X + 1 + 1) vR n (oR f g n)
  z6 : ∀ W, ButS (fun c => c = X + 1) L0 W → Zero3 W X (.slice none 0 0) (.int .u64 0) (.slice none 0 0)
  cs : ∀ k, k < n → 2 ^ (n - k) ≤ C k
theorem Op1.done {w W : World} {X n : Nat} {f g : Nat → Int} {vT vR : Value} {A : Nat → Option Addr} {C : Nat → Nat} {bt ot ct : Nat} (h : Op1 w W X n n n n f g vT vR A C bt ot ct) (u : Value) (o : OQ) (m : OM) (val : Int) (hu : u = .int .u64 val) :
    ∃ aT cT, Opm w (W.setCell ⟨X + 1, 1, none⟩ u) X n f g vT vR aT cT A C ∧ Op2 (W.setCell ⟨X + 1, 1, none⟩ u) (W.setCell ⟨X + 1, 1, none⟩ u) X 0 vR (.slice none 0 0) val o m := by
  have l7 : X + 1 < W.heap.size := World.block_lt_of_cell? W _ h.c0
  have ks : ∀ q, q ≠ X + 1 → (W.setCell ⟨X + 1, 1, none⟩ u).heap[q]? = W.heap[q]? := fun q hq => Below.heap_setCell _ _ _ _ hq
  have hsz : (W.setCell ⟨X + 1, 1, none⟩ u).heap.size = W.heap.size := World.size_setCell _ _ _
  have all : ∀ W', ButS (fun c => c = X + 1) (W.setCell ⟨X + 1, 1, none⟩ u) W' → ∀ q, q < W.heap.size → q ≠ X + 1 → W'.heap[q]? = W.heap[q]? := fun W' hb q hq hn => (hb.block q (by rw [hsz]; exact hq) hn).trans (ks q hn)
  obtain ⟨aT, cT, eT, _⟩ := h.tabs W (fun _ _ _ => rfl)
  refine ⟨aT, cT, ⟨h.bel.setCell (by have := h.hX; show w.heap.size ≤ X + 1; omega) _, h.hX, by rw [hsz]; exact l7, eT, fun W' hb => ?_, fun W' hb => owns_of h.rt (fun q hq => all W' hb q (World.ownsRow.lt h.rt q hq).2 (by have := (World.ownsRow.lt h.rt q hq).1; omega)), fun W' hb => zero_of h.z6 (all W' hb X (by omega) (by omega)), h.cs⟩, ⟨ButS.refl _ _, by rw [hsz]; exact l7, (World.cell?_setCell_other _ _ _ _ (by intro e; simp only [Addr.mk.injEq] at e; omega)).trans h.c0, by rw [World.cell?_setCell_same _ _ _ h.c1, hu], (World.cell?_setCell_other _ _ _ _ (by intro e; simp only [Addr.mk.injEq] at e; omega)).trans h.c2, by rw [World.frozen?_setCell]; exact h.fz 2 (by omega), LooksS.nil _ _ _ _⟩⟩
  obtain ⟨aT', cT', eT', hl⟩ := h.tabs W' (all W' hb)
  rw [eT] at eT'
  cases eT'
  exact hl

/-- One look, whole. -/
theorem Lk3.look {l0 W : World} {Y n t : Nat} {vP vA : Value} {P : Nat → Nat → Int} {A : Nat → Nat → Option Addr} {L C : Nat → Nat → Nat} {T : Nat → Nat → Nat → Int} (h : Lk3 l0 W Y n n vP vA P A L C T) (hn : 0 < n) (o : OQ) (m : OM) (hnp : o.np t = n) (hnt : o.nt t = n) (hP : o.P t = P) (hL : ∀ q, q < n → ∀ e, e < 2 → L q e = o.tl t q e ∧ T q e = o.T t q e) :
    ∃ gp cp ga ca, vP = .slice (some ⟨gp, 0, none⟩) n cp ∧ vA = .slice (some ⟨ga, 0, none⟩) n ca ∧ LookR W o (m.put t (some ⟨gp, 0, none⟩) (some ⟨ga, 0, none⟩) cp ca A C) t ∧ LookA (fun b => Y + 1 ≤ b ∧ b < W.heap.size) o (m.put t (some ⟨gp, 0, none⟩) (some ⟨ga, 0, none⟩) cp ca A C) t := by
  have hps := h.ps
  have hpt := h.pt
  rcases hps.2 with ⟨_, h0⟩ | ⟨gp, cp, cur, rfl, hgp, hh, _⟩
  · omega
  rcases hpt.2 with ⟨_, h0⟩ | ⟨ga, ca, cur2, rfl, hga, hh2, _⟩
  · omega
  obtain ⟨q1, q2, q3, q4, q5, q6⟩ := m.put_at t (some ⟨gp, 0, none⟩) (some ⟨ga, 0, none⟩) cp ca A C
  refine ⟨gp, cp, ga, ca, rfl, rfl, ⟨?_, ?_⟩, ⟨?_, ?_, ?_⟩⟩
  · rw [q1, hnp, hP]
    refine fun _ => ⟨gp, 0, rfl, fun k hk => ?_⟩
    have c0 := hps.cellAt (k * 2) (by omega)
    have c1 := hps.cellAt (k * 2 + 1) (by omega)
    rw [pcsV_at _ _ _ _ (by omega), pcV, if_pos (by omega), show k * 2 / 2 = k from by omega] at c0
    rw [pcsV_at _ _ _ _ (by omega), pcV, if_neg (by omega), show (k * 2 + 1) / 2 = k from by omega] at c1
    rw [show 0 + 2 * k = k * 2 from by omega]
    exact ⟨c0, c1⟩
  · rw [q2, hnt, q5, q6]
    refine fun _ => ⟨ga, 0, rfl, fun k hk => ?_⟩
    have c0 := hpt.cellAt (k * 2) (by omega)
    have c1 := hpt.cellAt (k * 2 + 1) (by omega)
    rw [pcsV_at _ _ _ _ (by omega), pcV, if_pos (by omega), show k * 2 / 2 = k from by omega] at c0
    rw [pcsV_at _ _ _ _ (by omega), pcV, if_neg (by omega), show (k * 2 + 1) / 2 = k from by omega] at c1
    rw [show 0 + 2 * k = k * 2 from by omega, ← (hL k hk 0 (by omega)).1, ← (hL k hk 1 (by omega)).1, ← (hL k hk 0 (by omega)).2, ← (hL k hk 1 (by omega)).2]
    exact ⟨c0, c1, h.rw k hk 0 (by omega), h.rw k hk 1 (by omega)⟩
  · rw [q1]
    intro a e
    cases e
    exact ⟨hgp, (Array.getElem?_eq_some_iff.1 hh).1⟩
  · rw [q2]
    intro a e
    cases e
    exact ⟨hga, (Array.getElem?_eq_some_iff.1 hh2).1⟩
  · rw [q5, hnt]
    exact fun k hk e he a ha => ⟨(h.fr k hk e he a ha).1, (h.fr k hk e he a ha).2.1⟩
theorem results_oneO {fn : Func} {p : Tmp} {ty : TypeId} (h : fn.results = #[.cell p ty]) (tmps : Array Value) (P : Program) (w : World) :
    (results fn tmps).run P w = ((asAddr (tmps.getD p undef)).run P w).andThen fun a w₁ => (loadVar ty a).run P w₁ := by
  simp only [results, h]
  simp [Sem.run_bind, Result.andThen]
theorem results_opn1 {fn : Func} {p : Tmp} (h : fn.results = #[.cell p 29]) {tmps : Array Value} {w : World} {b : Nat} {x0 x1 x2 : Value} (hp : tmps.getD p undef = .pointer (some ⟨b, 0, none⟩)) (c0 : w.cell? ⟨b, 0, none⟩ = some x0) (c1 : w.cell? ⟨b, 1, none⟩ = some x1) (c2 : w.cell? ⟨b, 2, none⟩ = some x2) :
    (results fn tmps).run Tryd.prog w = .ok (.agg #[x0, x1, x2]) w := by
  rw [results_oneO h, hp]
  simp [asAddr, Result.andThen, load_opn c0 c1 c2]
theorem OpRow.keepS {w w' : World} {ao : Option Addr} {o : OQ} {m : OM} {S : Nat → Prop} (h : OpRow w ao o m) (ha : ∀ a, ao = some a → S a.block) (hp : ∀ j, j < o.n → LookA S o m j) (hk : ∀ b, S b → w'.heap[b]? = w.heap[b]?) : OpRow w' ao o m := fun h0 => by
  obtain ⟨b, off, e, hr⟩ := h h0
  refine ⟨b, off, e, fun j hj => ?_⟩
  obtain ⟨h1, h2, h3, h4⟩ := hr j hj
  have hh : w'.heap[b]? = w.heap[b]? := hk b (ha _ e)
  have h5 := LookR.keep (W := w) (W' := w') ⟨h3, h4⟩ (hp j hj) hk
  exact ⟨(World.cell?_of_block (a := ⟨b, off + 2 * j, none⟩) hh).trans h1, (World.cell?_of_block (a := ⟨b, off + 2 * j + 1, none⟩) hh).trans h2, h5.1, h5.2⟩
theorem opened_end {w wr : World} {X n m br cr cl : Nat} {al : Option Addr} {f g : Nat → Int} {pl : Nat → Nat} {mm : OM} {vv : Int} (hX : w.heap.size = X) (hb : Below w.heap.size w wr) (hvv : fdQ f g n n 0 = vv) (hr : Row wr br 0 n (oR f g n)) (hbr : X + 1 + 1 ≤ br) (hop : OpRow wr al (rightO f g n m pl) mm) (hal : ∀ a, al = some a → X + 1 + 1 ≤ a.block) (hla : ∀ j, j < m → LookA (fun b => X + 1 + 1 ≤ b) (rightO f g n m pl) mm j) (x0 x1 x2 : Value) :
    openedOut f g n m pl w (.returned (.agg #[.slice (some ⟨br, 0, none⟩) n cr, .int .u64 vv, .slice al m cl])) (((wr.setCell ⟨X, 0, none⟩ x0).setCell ⟨X, 1, none⟩ x1).setCell ⟨X, 2, none⟩ x2) := by
  have hk : ∀ q, X + 1 + 1 ≤ q → (((wr.setCell ⟨X, 0, none⟩ x0).setCell ⟨X, 1, none⟩ x1).setCell ⟨X, 2, none⟩ x2).heap[q]? = wr.heap[q]? := fun q hq => (Below.heap_setCell _ _ _ _ (by show q ≠ X; omega)).trans ((Below.heap_setCell _ _ _ _ (by show q ≠ X; omega)).trans (Below.heap_setCell _ _ _ _ (by show q ≠ X; omega)))
  refine ⟨some ⟨br, 0, none⟩, al, cr, cl, mm, by rw [hvv], PRow.of (row_of1 hr (hk br hbr)), hop.keepS (S := fun q => X + 1 + 1 ≤ q) hal (fun j hj => hla j hj) hk, ⟨fun a e => by cases e; show w.heap.size ≤ br; omega, fun a e => by have := hal a e; omega, fun j hj => (hla j hj).mono fun q hq => by omega⟩, hb.trans ((but_set3 wr X x0 x1 x2).below (fun k hk => by rw [show k = X from hk, hX]; exact Nat.le_refl _) hb.size)⟩

set_option maxHeartbeats 16000000 in
set_option maxRecDepth 100000 in
theorem ropened_any (n b off cap cp m cpl : Nat) (ap apl : Option Addr) (f g : Nat → Int) (pl : Nat → Nat) (w : World) (n1 : 1 ≤ n) (n8 : n ≤ 8) (hcap : 2 ^ n ≤ cap) (hr : Row w b off (2 ^ n) f) (hv : Nums f) (hp : PRow w ap n g) (hg : Nums g) (hi : IRowP w apl m fun j => (pl j : Int)) (hpl : plOk m n fun j => (pl j : Int)) (N : Nat) (hN : 2 ^ n = N) :
    Calls Tryd.prog 10 #[.slice (some ⟨b, off, none⟩) N cap, .slice ap n cp, .slice apl m cpl] w fun e w' => openedOut f g n m pl w e w' := by
  have m32 : m ≤ 32 := hpl.1
  have HPT := hid hp
  have HVG := hid hg
  have HVF := hid hv
  have HPI := hid hi
  have HPL := hid hpl.2
  obtain ⟨i0, hi0, hz0', hz1', hz2'⟩ := info_parts Tryd.infoO
  have HU0 := hid (And.intro hi0 (And.intro hz0' (And.intro hz1' hz2')))
  obtain ⟨i1, hi1, hy0', hy1', hy2'⟩ := info_parts Tryd.infoL
  have HU1 := hid (And.intro hi1 (And.intro hy0' (And.intro hy1' hy2')))
  obtain ⟨i2, hi2, hx0', hx1', hx2'⟩ := info_parts Tryd.infoK
  have HU2 := hid (And.intro hi2 (And.intro hx0' (And.intro hx1' hx2')))
  obtain ⟨i3, hi3, ha0', ha1', ha2'⟩ := info_parts Tryd.infoA
  have HU3 := hid (And.intro hi3 (And.intro ha0' (And.intro ha1' ha2')))
  obtain ⟨i4, hi4, hb0', hb1', hb2'⟩ := info_parts Tryd.infoB
  have HU4 := hid (And.intro hi4 (And.intro hb0' (And.intro hb1' hb2')))
  clear hi0 hz0' hz1' hz2' hi1 hy0' hy1' hy2' hi2 hx0' hx1' hx2' hi3 ha0' ha1' ha2' hi4 hb0' hb1' hb2'
  have HS0 := hid (Op1.start (g := g) 29 29 hr hcap)
  have HNN := hid hN
  clear hp hg hi hpl hr hv hcap hN
  go_enter Tryd.func10, Tryd.ntmps10
  go_wp2_with fail
  obtain ⟨X, hX⟩ : ∃ X, w.heap.size = X := ⟨_, rfl⟩
  rw [hX] at HS0
  rw [hX]
  clear hX
  generalize (w.alloc (.cells #[.slice none 0 0, .int .u64 0, .slice none 0 0] 29)).alloc (.cells #[.slice none 0 0, .int .u64 0, .slice none 0 0] 29) = W0 at HS0 ⊢
  go_loopg [0, 8, 9] n (fun q x0 x8 x9 wr => ∃ (i : Nat) (vT vR : Value) (A : Nat → Option Addr) (C : Nat → Nat) (bt ot ct Ni : Nat), i ≤ n ∧ q = n - i ∧ x0 = .slice (some ⟨bt, ot, none⟩) Ni ct ∧ x8 = vT ∧ x9 = .int .i64 (i : Int) ∧ Hid (2 ^ (n - i) = Ni) ∧ Hid (Op1 w wr X n i i i f g vT vR A C bt ot ct))
  case atStart => exact ⟨0, _, _, _, _, _, _, _, _, by omega, rfl, rfl, rfl, rfl, HNN, HS0⟩
  case round =>
    clear HS0
    obtain ⟨i, vT, vR, A, C, bt, ot, ct, Ni, hin, rfl, rfl, rfl, rfl, HNI, HS⟩ := hrel
    by_cases hil : i < n
    · obtain ⟨h, hh⟩ : ∃ h, 2 ^ (n - (i + 1)) = h := ⟨_, rfl⟩
      have e2 : Ni = 2 * h := by rw [← HNI.out, ← hh, show n - i = (n - (i + 1)) + 1 from by omega, Nat.pow_succ]; omega
      subst e2
      have hh1 : 1 ≤ h := by rw [← hh]; exact Nat.one_le_two_pow
      have hh2 : h ≤ 256 := by rw [← hh]; exact Nat.pow_le_pow_right (j := 8) (by omega) (by omega)
      have HHH := hid hh
      have il : (i : Int) < (n : Int) := by omega
      obtain ⟨bp, op, rfl, hpr⟩ := (HPT.out.kept HS.out.bel) (by omega)
      clear hh hpr
      go_wp2_with (at_builtin; refine wpList_append_lies _ rfl _ _ 50 rfl (X + 1 + 1) 22 i1 (.slice none 0 0) 1 24 Tryd.underlying50 HU1.out.1 HU1.out.2.1 HU1.out.2.2.1 HU1.out.2.2.2 rfl (by decide) _ _ _ rfl (World.ownsRow.alloc HS.out.tb.own _) ⟨wr.heap.size, 0, none⟩ 1 1 [.slice (some ⟨bt, ot, none⟩) (2 * h) ct] rfl rfl ?qc2 ?qc3 ?qc4 ?qc5 ?qc6 ?qc7 (wr.heap.size + 1) ?qc8 ?_)
      case qc2 =>
        intro q u hq
        match q, hq with
        | 0, hq => simp at hq; subst hq; simp [Addr.add]
      case qc3 => intro u hu; simp at hu; subst hu; rfl
      case qc4 => omega
      case qc5 => unfold maxLen; omega
      case qc6 => omega
      case qc7 => have : X + 1 < wr.heap.size := World.block_lt_of_cell? wr _ HS.out.c0; simp; omega
      case qc8 => simp
      intro g6 c6 w6 hown6 hgrow6 hat6 hlt6
      have HS6 := hid (HS.out.tab (by rw [HNI.out]; exact hown6) hgrow6 hat6)
      clear hown6 hgrow6 hat6 hlt6 HS
      obtain ⟨bp', op', ep, hpr⟩ := (HPT.out.kept HS6.out.bel) (by omega)
      cases ep
      have cg := hpr i hil
      have hgr := HVG.out i
      have hcu := HS6.out.cu
      rw [HNI.out] at hcu
      have HFX := hid (rfix_ok bt ot (n - (i + 1)) h ct (fdQ f g n i) (g i) w6 (by omega) HHH.out.symm hcu (fdQ_nums f g n i HVF.out) hgr.1 hgr.2)
      obtain ⟨gi, hgi⟩ : ∃ x, g i = x := ⟨_, rfl⟩
      rw [hgi] at cg HFX
      have HGI := hid hgi
      clear hpr hcu hgr hgi
      go_wp2_with fail
      refine (HFX.out).mono ?_
      rintro e w7 ⟨v7, rfl, ho7, hb7⟩
      obtain ⟨b2, c2, rfl, hc2, hr2, hlo2, _⟩ := own_some1 ho7 hh1
      have HS7 := hid (HS6.out.fold (b2 := b2) (c2 := c2) hb7 (by
        rw [HHH.out]
        refine hr2.congr fun j hj => ?_
        show fixQ (fdQ f g n i) h gi j = fldF (fdQ f g n i) (hfQ n i) (g i) j
        rw [fold_fix, HGI.out, show hfQ n i = h from by rw [← HHH.out]; unfold hfQ; congr 1; omega]) hlo2 (by rw [HHH.out]; exact hc2))
      clear ho7 hb7 hr2 hlo2 HFX HS6 cg
      have hcu := HS7.out.cu
      rw [HHH.out] at hcu
      have HRO := hid (fun W (hb : Below w7.heap.size w7 W) => (by
        have := rroot_any (n - (i + 1)) h b2 0 c2 (fdQ f g n (i + 1)) W (by omega) HHH.out.symm hc2 (hcu.kept hb (hcu.lt (by omega))) (fdQ_nums f g n (i + 1) HVF.out)
        rw [show rootQ (n - (i + 1)) (fdQ f g n (i + 1)) = oR f g n i from by unfold oR; rw [show n - 1 - i = n - (i + 1) from by omega]] at this
        exact this : Calls Tryd.prog 34 #[.slice (some ⟨b2, 0, none⟩) h c2] W fun e w' => e = .returned (.int .u64 (oR f g n i)) ∧ Below W.heap.size W w'))
      obtain ⟨yr, hyr⟩ : ∃ x, oR f g n i = x := ⟨_, rfl⟩
      rw [hyr] at HRO
      have HYR := hid hyr
      have y0 := HS7.out.c0
      have f0 := HS7.out.fz 0 (by omega)
      have hl7 : X + 1 < w7.heap.size := World.block_lt_of_cell? w7 _ y0
      clear hyr hcu
      go_wp2_with fail
      go_region_law (first
        | (refine step_append_lies _ (by rfl) (.tmp 32) (.tmp 35) 22 (by rfl) (X + 1 + 1) 26 i0 (.int .u64 0) 1 8 Tryd.underlying22 HU0.out.1 HU0.out.2.1 HU0.out.2.2.1 HU0.out.2.2.2 rfl (by decide) vR i (cellsOf i (oR f g n)) (by rfl) (World.ownsRow.alloc HS8.out.rt _) ⟨w8.heap.size, 0, none⟩ 1 1 [.int .u64 yr] (by rfl) (by rfl) (news_one w8 yr _) (one_cell yr) (by omega) (by unfold maxLen; omega) (by omega) (by have := HL8.out; simp; omega) (w8.heap.size + 1) (by simp) ?_; intro g9 c9 w9 hown9 hgrow9 hat9 hlt9; have HP9 := hid (HS8.out.root hown9 hgrow9 hat9 HYR.out.symm); have q1 := HP9.out.1.1; have q2 := HP9.out.1.2)
        | (go_simp; go_at_call 34; refine (HRO.out _ (Below.refl _ w7).drew).mono ?_; rintro e w8 ⟨rfl, hb8⟩; have HB8 : Hid (Below w7.heap.size w7 w8) := hid ((Below.refl _ w7).drew.trans hb8); have HS8 := hid (HS7.out.next HB8.out); have HL8 : Hid (X + 1 < w8.heap.size) := hid (Nat.lt_of_lt_of_le hl7 HB8.out.size); have y8 := HS8.out.c0; have y9 := fun o => nkeep (nbel w8 o) y8; clear hb8))
      all_goals (go_wp2_with fail)
      all_goals (go_roundg (n - (i + 1)))
      all_goals first | (go_light; omega) | (exact ⟨i + 1, _, _, _, _, _, _, _, h, by omega, rfl, rfl, rfl, by go_num, HHH, hid HP9.out.2⟩)
    · have e : n = i := by omega
      subst e
      have e1 : Ni = 1 := by rw [← HNI.out, Nat.sub_self, Nat.pow_zero]
      subst e1
      have c0 := HS.out.cu 0 (Nat.two_pow_pos _)
      rw [Nat.add_zero] at c0
      have x1 := HS.out.c1
      have f1 := HS.out.fz 1 (by omega)
      obtain ⟨vv, hvv⟩ : ∃ x, fdQ f g n n 0 = x := ⟨_, rfl⟩
      rw [hvv] at c0
      have HVV := hid hvv
      obtain ⟨aT, cT, hm, hq⟩ := HS.out.done (.int .u64 vv) (rightO f g n m pl) (⟨fun _ => none, fun _ => none, fun _ => 0, fun _ => 0, fun _ _ _ => none, fun _ _ _ => 0⟩ : OM) vv rfl
      have HM := hid hm
      have HQ0 := hid hq
      have eT := hm.eT
      subst eT
      clear hm hq hvv
      go_wp2_with fail
      obtain ⟨L0, hL0⟩ : ∃ L0, wr.setCell ⟨X + 1, 1, none⟩ (.int .u64 vv) = L0 := ⟨_, rfl⟩
      rw [hL0] at HM HQ0
      rw [hL0]
      clear hL0 c0 x1 f1 HS
      go_loopg [10] m (fun q y wr => ∃ (t : Nat) (vK : Value) (mm : OM), t ≤ m ∧ q = m - t ∧ y = .int .i64 (t : Int) ∧ Hid (Op2 L0 wr X t vR vK vv (rightO f g n m pl) mm))
      case atStart => exact ⟨0, _, _, by omega, rfl, rfl, HQ0⟩
      case round =>
        clear HQ0
        obtain ⟨t, vK, mm, htm, rfl, rfl, HQ⟩ := hrel
        by_cases htl : t < m
        · have tl : (t : Int) < (m : Int) := by omega
          have HBW : Hid (Below w.heap.size w wr) := hid (HM.out.bel.trans (HQ.out.but.below (fun k hk => by rw [show k = X + 1 from hk]; have := HM.out.hX; omega) HM.out.bel.size))
          obtain ⟨bpl, opl, rfl, hpr⟩ := (HPI.out.kept HBW.out) (by omega)
          have hplt := HPL.out t htl
          clear hpr
          obtain ⟨p, hp⟩ : ∃ p, pl t = p := ⟨_, rfl⟩
          have HPP := hid hp
          obtain ⟨l0, hl0⟩ : ∃ l0, l0 = wr := ⟨_, rfl⟩
          subst hl0
          have HL0 := hid (Lk3.start l0 72 (oP f g n p) (fun _ _ => none) (fun _ _ => 0) (fun _ _ => 0) (fun _ _ _ => 0))
          clear hp
          go_wp2_with fail
          obtain ⟨Y, hY⟩ : ∃ Y, l0.heap.size = Y := ⟨_, rfl⟩
          obtain ⟨W4, hW4⟩ : ∃ W4, l0.alloc (.cells #[.slice none 0 0, .slice none 0 0] 72) = W4 := ⟨_, rfl⟩
          rw [hW4, hY] at HL0
          rw [hW4, hY]
          clear hW4 hY
          go_loopg [12] n (fun q y wr => ∃ (k : Nat) (vP vA : Value) (A3 : Nat → Nat → Option Addr) (L3 C3 : Nat → Nat → Nat) (T3 : Nat → Nat → Nat → Int), k ≤ n ∧ q = n - k ∧ y = .int .i64 (k : Int) ∧ Hid (Lk3 l0 wr Y k k vP vA (oP f g n p) A3 L3 C3 T3) ∧ Hid (∀ q, q < k → ∀ e, e < 2 → L3 q e = n - q ∧ T3 q e = oT f g n p q e))
          case atStart => exact ⟨0, _, _, _, _, _, _, by omega, rfl, rfl, HL0, hid (fun q hq => absurd hq (by omega))⟩
          case round =>
            clear HL0
            obtain ⟨k, vP, vA, A3, L3, C3, T3, hkn, rfl, rfl, HK, HE3⟩ := hrel
            have HBT : Hid (ButS (fun c => c = X + 1) L0 wr) := hid (HQ.out.but.trans (ButS.of HK.out.bel))
            by_cases hkl : k < n
            · have kl : (k : Int) < (n : Int) := by omega
              obtain ⟨bT, oT', rfl, hrow⟩ := HM.out.tb l0 HQ.out.but (by omega)
              obtain ⟨ctk, hpk⟩ := hrow k hkl
              dsimp only at ctk hpk
              obtain ⟨bk, ok, ek, hrk⟩ := hpk (Nat.two_pow_pos _)
              rw [ek, pow_half hkl] at ctk
              rw [pow_half hkl] at hrk
              have hck := HM.out.cs k hkl
              rw [pow_half hkl] at hck
              have hH1 := hfQ_pos n k
              have hH2 := hfQ_le (k := k) n8
              obtain ⟨bpl', opl', epl, hpr⟩ := HPI.out.kept (HBW.out.trans (HK.out.bel.mono HBW.out.size)) (by omega)
              cases epl
              have cpl1 := hpr t htl
              dsimp only at cpl1
              rw [HPP.out] at cpl1
              have hmod : (p : Int) % ((hfQ n k : Nat) : Int) = ((p % hfQ n k : Nat) : Int) := by simp
              have hq0 : p % hfQ n k < hfQ n k := Nat.mod_lt _ hH1
              have hv := fdQ_nums f g n k HVF.out
              have u0 := hrk (p % hfQ n k) (by omega)
              have u1 := hrk (p % hfQ n k + hfQ n k) (by omega)
              have hv0 := hv (p % hfQ n k)
              have hv1 := hv (p % hfQ n k + hfQ n k)
              have HN0 : Hid (nrm (fdQ f g n k (p % hfQ n k)) = oP f g n p k 0) := hid (by unfold oP; rw [Nat.zero_mul, Nat.add_zero])
              have HN1 : Hid (nrm (fdQ f g n k (p % hfQ n k + hfQ n k)) = oP f g n p k 1) := hid (by unfold oP; rw [Nat.one_mul])
              have HPU := hid (fun W (i : Nat) (hb : Below l0.heap.size l0 W) (hi : i < 2 * hfQ n k) => rpath_any (n - k) (2 * hfQ n k) bk ok (C k) i (fdQ f g n k) W (by omega) (hfQ_all hkl) hck (hrk.kept hb (hrk.lt (by omega))) hv hi)
              have HT0 : Hid (pathQ (n - k) (fdQ f g n k) (p % hfQ n k) = oT f g n p k 0) := hid (by funext j; unfold oT; rw [Nat.zero_mul, Nat.add_zero])
              have HT1 : Hid (pathQ (n - k) (fdQ f g n k) (p % hfQ n k + hfQ n k) = oT f g n p k 1) := hid (by funext j; unfold oT; rw [Nat.one_mul])
              obtain ⟨qs, hqs⟩ : ∃ x, p % hfQ n k + hfQ n k = x := ⟨_, rfl⟩
              rw [hqs] at u1 hv1 HN1 HT1
              have qs1 : qs < 2 * hfQ n k := by omega
              generalize fdQ f g n k (p % hfQ n k) = x0 at u0 hv0 HN0
              generalize fdQ f g n k qs = x1 at u1 hv1 HN1
              generalize p % hfQ n k = qq at hmod hq0 u0 HT0 hqs
              generalize hfQ n k = H at hmod hq0 HPU hH1 hH2 ctk hck hqs qs1
              obtain ⟨Ck, hCk⟩ : ∃ x, C k = x := ⟨_, rfl⟩
              rw [hCk] at ctk HPU
              have HCT := hid ctk
              replace ctk := nkeep HK.out.bel ctk
              replace u0 := nkeep HK.out.bel u0
              replace u1 := nkeep HK.out.bel u1
              have y0 := HK.out.c0
              have f0 := HK.out.f0
              have zH : ((H : Int) == 0) = false := by rw [beq_eq_false_iff_ne]; omega
              have zH2 : ¬ (H : Int) = 0 := by omega
              have q1 : (qq : Int) < 2 * (H : Int) := by omega
              have q2 : (qs : Int) < 2 * (H : Int) := by omega
              have ws : IntKind.i64.wrap ((qq : Int) + (H : Int)) = (qs : Int) := by rw [show (qq : Int) + (H : Int) = (qs : Int) from by omega]; exact IntWalk.i64_in _ (by omega)
              have tq : (0 : Int) ≤ (t : Int) := by omega
              clear hrow hpk ek hrk hck hpr hv hCk hqs hplt
              go_wp2_with fail
              rw [hmod]
              have hlY : Y < wr.heap.size := World.block_lt_of_cell? wr _ y0
              go_cut [5] (fun a5 wx => ∃ vP' : Value, a5 = undef ∧ Hid (Lk3 l0 wx Y (k + 1) k vP' vA (oP f g n p) A3 L3 C3 T3))
              case first =>
                refine wp_region_noPanic ?_
                refine wp_region_tkn (fun w7 => w7.cell? ⟨Y, 0, none⟩ = some vP ∧ w7.cell? ⟨bT, oT' + k, none⟩ = some (.slice (some ⟨bk, ok, none⟩) (2 * H) Ck) ∧ w7.cell? ⟨bk, ok + qq, none⟩ = some (.int .u64 x0) ∧ w7.cell? ⟨bk, ok + qs, none⟩ = some (.int .u64 x1)) [0, 1, 2, 3, 4, 5, 6, 7, 8, 9, 10, 11, 12, 13, 14, 15, 16, 17, 18, 19, 20] [21] [22, 23, 24] 22 (by kernel_rfl) (by kernel_rfl) (fun _ _ _ _ _ h => h) ⟨y0, ctk, u0, u1⟩ ?_
                simp only [opsAt, List.filterMap_cons, List.filterMap_nil, List.getElem?_cons_zero, List.getElem?_cons_succ]
                have HYS := hid (And.intro y0 (And.intro ctk (And.intro u0 u1)))
                clear y0 ctk u0 u1
                repeat (refine tknList_val (v := ?_) (by rfl) ?_ ?_; rotate_left; focus (intro w7 hSw; (try dsimp only at hSw); go_simp <;> with_reducible rfl); (try simp only [Act.put, List.setIfInBounds_toArray, List.set_cons_zero, List.set_cons_succ]))
                refine tknList_call (v := .int .u64 (nrm x0)) (f := 35) (args := #[.int .u64 x0]) (by rfl) ?_ ?_ ?_
                · intro w7 hSw; go_simp
                · intro w7 hSw; exact rnorm_any _ _ (by omega) (by omega)
                try simp only [Act.put, List.setIfInBounds_toArray, List.set_cons_zero, List.set_cons_succ]
                repeat (refine tknList_val (v := ?_) (by rfl) ?_ ?_; rotate_left; focus (intro w7 hSw; (try dsimp only at hSw); go_simp <;> with_reducible rfl); (try simp only [Act.put, List.setIfInBounds_toArray, List.set_cons_zero, List.set_cons_succ]))
                refine tknList_call (v := .int .u64 (nrm x1)) (f := 35) (args := #[.int .u64 x1]) (by rfl) ?_ ?_ ?_
                · intro w7 hSw; go_simp
                · intro w7 hSw; exact rnorm_any _ _ (by omega) (by omega)
                try simp only [Act.put, List.setIfInBounds_toArray, List.set_cons_zero, List.set_cons_succ]
                repeat (refine tknList_val (v := ?_) (by rfl) ?_ ?_; rotate_left; focus (intro w7 hSw; (try dsimp only at hSw); go_simp <;> with_reducible rfl); (try simp only [Act.put, List.setIfInBounds_toArray, List.set_cons_zero, List.set_cons_succ]))
                refine tknList_nil ?_
                dsimp only
                refine leftList_step ?_ (by rfl)
                intro K hK
                go_simp
                refine hK _ _ ⟨nkeep (nbel wr _) HYS.out.1, nkeep (nbel wr _) HYS.out.2.1, nkeep (nbel wr _) HYS.out.2.2.1, nkeep (nbel wr _) HYS.out.2.2.2⟩ ?_
                clear hK K
                refine leftList_nil ?_
                refine wpList_append_lies _ (by rfl) (.tmp 67) (.tmp 87) 69 (by rfl) (Y + 1) 41 i3 (.agg #[.int .u64 0, .int .u64 0]) 2 16 Tryd.underlying69 HU3.out.1 HU3.out.2.1 HU3.out.2.2.1 HU3.out.2.2.2 rfl (by decide) vP k (pcsV (prA (oP f g n p) 0) (prA (oP f g n p) 1) k) (by rfl) (World.ownsRow.alloc HK.out.ps _) ⟨wr.heap.size, 0, none⟩ 1 1 [.int .u64 (nrm x0), .int .u64 (nrm x1)] (by rfl) ?qa1 ?qa2 ?qa3 ?qa4 ?qa5 ?qa6 ?qa7 (wr.heap.size + 1) ?qa8 ?_
                case qa1 => rfl
                case qa2 => exact news_two wr _ _ _
                case qa3 => exact two_one _ _
                case qa4 => omega
                case qa5 => unfold maxLen; omega
                case qa6 => omega
                case qa7 => simp; omega
                case qa8 => simp
                intro g6 c6 w6 hown6 hgrow6 hat6 hlt6
                have HP6 := hid (HK.out.pair hown6 (grown_undrew hgrow6) hat6 HN0.out HN1.out)
                have p0 := HP6.out.1.1
                have p1 := HP6.out.1.2
                clear hown6 hgrow6 hat6 hlt6
                refine wpList_plain rfl (fun K hK => ?_)
                go_simp
                refine hK _ _ ?_
                clear hK K
                refine wpList_plain rfl (fun K hK => ?_)
                go_simp
                refine hK _ _ ?_
                clear hK K
                refine NoPanic.normal ?_
                go_wp2_with fail
                go_meet
                exact ⟨_, rfl, hid HP6.out.2⟩
              case rest =>
                obtain ⟨vP', ha5, HK2⟩ := hcut
                clear HK y0 f0 u0 u1 ctk hlY
                have ctk := nkeep HK2.out.bel HCT.out
                have y1 := HK2.out.c1
                have g1 := HK2.out.f1
                have hlY : Y < wc.heap.size := World.block_lt_of_cell? wc _ y1
                have HB0 : Hid (Below l0.heap.size l0 wc.drew) := hid HK2.out.bel.drew
                have qq1 : qq < 2 * H := by omega
                have HEN : Hid (∀ q, q < k + 1 → ∀ e, e < 2 → putE L3 k (n - k) (n - k) q e = n - q ∧ putE T3 k (pathQ (n - k) (fdQ f g n k) qq) (pathQ (n - k) (fdQ f g n k) qs) q e = oT f g n p q e) := hid (fun q hq e he => by
                  unfold putE
                  by_cases e2 : q = k
                  · rw [if_pos e2, if_pos e2, e2]
                    rcases (show e = 0 ∨ e = 1 by omega) with e3 | e3
                    · subst e3; rw [if_pos rfl, if_pos rfl]; exact ⟨rfl, HT0.out⟩
                    · subst e3; rw [if_neg (by omega), if_neg (by omega)]; exact ⟨rfl, HT1.out⟩
                  · rw [if_neg e2, if_neg e2]; exact HE3.out q (by omega) e he)
                obtain ⟨lP, lA⟩ := HK2.out.low
                have HLO := hid (And.intro lP lA)
                clear lP lA
                go_wp2_with fail
                go_region_law (first
                  | (refine step_append_lies _ (by rfl) (.tmp 91) (.tmp 107) 70 (by rfl) (Y + 1) 73 i4 (.agg #[.slice none 0 0, .slice none 0 0]) 2 48 Tryd.underlying70 HU4.out.1 HU4.out.2.1 HU4.out.2.2.1 HU4.out.2.2.2 rfl (by decide) vA k (pcsV (ptA A3 L3 C3 0) (ptA A3 L3 C3 1) k) (by rfl) (World.ownsRow.alloc HK9.out.pt _) ⟨w9.heap.size, 0, none⟩ 1 1 [.slice a8 (n - k) s8, .slice a9 (n - k) s9] (by rfl) (by rfl) (news_two w9 _ _ _) (two_one' _ _ _ _ _ _) (by omega) (by unfold maxLen; omega) (by omega) (by have := HK9.out.lt; simp; omega) (w9.heap.size + 1) (by simp) ?_; intro g6 c6 w10 hown6 hgrow6 hat6 hlt6; have HPA := hid (HK9.out.path hown6 hgrow6 hat6 HR8.out.1 HR9.out.1 HR8.out.2 HR9.out.2); have p0 := HPA.out.1.1; have p1 := HPA.out.1.2)
                  | (refine step_append_lies _ (by rfl) (.tmp 91) (.tmp 107) 70 (by rfl) (Y + 1) 73 i4 (.agg #[.slice none 0 0, .slice none 0 0]) 2 48 Tryd.underlying70 HU4.out.1 HU4.out.2.1 HU4.out.2.2.1 HU4.out.2.2.2 rfl (by decide) vA k (pcsV (ptA A3 L3 C3 0) (ptA A3 L3 C3 1) k) (by rfl) (World.ownsRow.alloc HK9.out.pt _) ⟨w9.heap.size, 0, none⟩ 1 1 [.slice a9 (n - k) s9, .slice a8 (n - k) s8] (by rfl) (by rfl) (news_two w9 _ _ _) (two_one' _ _ _ _ _ _) (by omega) (by unfold maxLen; omega) (by omega) (by have := HK9.out.lt; simp; omega) (w9.heap.size + 1) (by simp) ?_; intro g6 c6 w10 hown6 hgrow6 hat6 hlt6; have HPA := hid (HK9.out.path hown6 hgrow6 hat6 HR9.out.1 HR8.out.1 HR9.out.2 HR8.out.2); have p0 := HPA.out.1.1; have p1 := HPA.out.1.2)
                  | (go_simp; go_at_call 36; refine (HPU.out _ _ HB8.out (by assumption)).mono ?_; rintro e w9 ⟨v9, rfl, ho9, hb9⟩; obtain ⟨a9, s9, rfl, hp9, _⟩ := ho9.is; have hl9 : ∀ a, a9 = some a → w8.heap.size ≤ a.block ∧ a.block < w9.heap.size := (fun a e => World.ownsRow.lt ho9 a.block (by rw [e]; rfl)); have HK9 := hid (HK8.out.next hb9); have HR9 := hid (And.intro hp9 (fun a e => (⟨by have h1 := (hl9 a e).1; have h2 := HK8.out.lt; omega, (hl9 a e).2, fun e2 => by have h1 := (hl9 a e).1; have h2 := (HLO.out.1 _ e2).2; have h3 := HS8.out; omega, fun e2 => by have h1 := (hl9 a e).1; have h2 := (HLO.out.2 _ e2).2; have h3 := HS8.out; omega⟩ : Y + 1 ≤ a.block ∧ a.block < w9.heap.size ∧ vP'.ownBlock ≠ some a.block ∧ vA.ownBlock ≠ some a.block))); replace HR8 := hid (And.intro (HR8.out.1.kept hb9) (fun a e => (⟨(HR8.out.2 a e).1, Nat.lt_of_lt_of_le (HR8.out.2 a e).2.1 hb9.size, (HR8.out.2 a e).2.2⟩ : Y + 1 ≤ a.block ∧ a.block < w9.heap.size ∧ vP'.ownBlock ≠ some a.block ∧ vA.ownBlock ≠ some a.block))); have y9 := HK9.out.c1; have y10 := fun o => nkeep (nbel w9 o) y9; have ct9 := nkeep HK9.out.bel HCT.out; clear ho9 hb9 hp9 hl9)
                  | (go_simp; go_at_call 36; refine (HPU.out _ _ HB0.out (by assumption)).mono ?_; rintro e w8 ⟨v8, rfl, ho8, hb8⟩; obtain ⟨a8, s8, rfl, hp8, _⟩ := ho8.is; have hl8 : ∀ a, a8 = some a → wc.heap.size ≤ a.block ∧ a.block < w8.heap.size := (fun a e => World.ownsRow.lt ho8 a.block (by rw [e]; rfl)); have hbw : Below wc.heap.size wc w8 := (Below.refl _ wc).drew.trans hb8; have HK8 := hid (HK2.out.next hbw); have HB8 : Hid (Below l0.heap.size l0 w8) := hid HK8.out.bel; have HS8 : Hid (wc.heap.size ≤ w8.heap.size) := hid hbw.size; have HR8 := hid (And.intro hp8 (fun a e => (⟨by have h1 := (hl8 a e).1; omega, (hl8 a e).2, fun e2 => by have h1 := (hl8 a e).1; have h2 := (HLO.out.1 _ e2).2; omega, fun e2 => by have h1 := (hl8 a e).1; have h2 := (HLO.out.2 _ e2).2; omega⟩ : Y + 1 ≤ a.block ∧ a.block < w8.heap.size ∧ vP'.ownBlock ≠ some a.block ∧ vA.ownBlock ≠ some a.block))); have y8 := HK8.out.c1; have ct8 := nkeep HK8.out.bel HCT.out; clear ho8 hb8 hp8 hl8 hbw))
                all_goals (go_wp2_with fail)
                all_goals (go_roundg (n - (k + 1)))
                all_goals first | (go_light; omega) | (exact ⟨k + 1, _, _, _, _, _, _, by omega, rfl, by go_num, hid HPA.out.2, HEN⟩)
            · have e : n = k := by omega
              subst e
              obtain ⟨gp, cp', ga, ca, eP, eA, hlr, hla⟩ := HK.out.look (t := t) (by omega) (rightO f g n m pl) mm rfl rfl (by show oP f g n (pl t) = _; rw [HPP.out]) (fun q hq e he => by
                have h := HE3.out q hq e he
                refine ⟨h.1, h.2.trans ?_⟩
                show oT f g n p q e = oT f g n (pl t) q e
                rw [HPP.out])
              subst eP
              subst eA
              have HQW := hid (HQ.out.next HK.out.bel)
              have HLR := hid hlr
              have HLA : Hid (LookA (fun b => L0.heap.size ≤ b ∧ b < wr.heap.size ∧ vK.ownBlock ≠ some b) (rightO f g n m pl) (mm.put t (some ⟨gp, 0, none⟩) (some ⟨ga, 0, none⟩) cp' ca A3 C3) t) := hid (hla.mono fun q hq => ⟨by have h1 := hq.1; have h2 := HK.out.hY; have h3 := HQ.out.but.size; omega, hq.2, fun e => by have h1 := (World.ownsRow.lt HQ.out.ks.own q e).2; have h2 := HK.out.hY; have h3 := hq.1; omega⟩)
              have y0 := HK.out.c0
              have y1 := HK.out.c1
              have x2 := HQW.out.c2
              have g2 := HQW.out.f2
              have hXl : X + 1 < wr.heap.size := World.block_lt_of_cell? wr _ x2
              clear hlr hla
              go_wp2_with (at_builtin; refine wpList_append_lies _ rfl _ _ 27 rfl L0.heap.size 72 i2 (.agg #[.slice none 0 0, .slice none 0 0]) 2 48 Tryd.underlying27 HU2.out.1 HU2.out.2.1 HU2.out.2.2.1 HU2.out.2.2.2 rfl (by decide) _ _ _ rfl (World.ownsRow.alloc HQW.out.ks.own _) ⟨wr.heap.size, 0, none⟩ 1 1 [.slice (some ⟨gp, 0, none⟩) n cp', .slice (some ⟨ga, 0, none⟩) n ca] rfl ?qc1 ?qc2 ?qc3 ?qc4 ?qc5 ?qc6 ?qc7 (wr.heap.size + 1) ?qc8 ?_)
              case qc1 => rfl
              case qc2 => exact news_two wr _ _ _
              case qc3 => exact two_one' _ _ _ _ _ _
              case qc4 => omega
              case qc5 => unfold maxLen; omega
              case qc6 => omega
              case qc7 => have := HQW.out.but.size; simp; omega
              case qc8 => simp
              intro g6 c6 w6 hown6 hgrow6 hat6 hlt6
              have HP6 := hid (HQW.out.put (A := A3) (C := C3) hown6 hgrow6 hat6 HLR.out HLA.out)
              obtain ⟨⟨p0, p1⟩, _⟩ := HP6.out
              clear hown6 hgrow6 hat6 hlt6 y0 y1 x2 g2 HLR HLA
              go_wp2_with fail
              go_roundg (m - (t + 1))
              case measure => go_light; omega
              case rel => exact ⟨t + 1, _, _, by omega, rfl, by go_num, hid HP6.out.2⟩
        · have e : m = t := by omega
          subst e
          obtain ⟨al, cl, eK, hop, hal⟩ := LooksS.all (o := rightO f g n m pl) HQ.out.ks
          have eK : vK = .slice al m cl := eK
          subst eK
          have hrt := HM.out.rt wr HQ.out.but
          obtain ⟨br, cr, eR, _, hrr, hlo, _⟩ := own_some1 hrt (by omega)
          subst eR
          have HBW : Hid (Below w.heap.size w wr) := hid (HM.out.bel.trans (HQ.out.but.below (fun k hk => by rw [show k = X + 1 from hk]; have := HM.out.hX; omega) HM.out.bel.size))
          have HEN : Hid (∀ x0 x1 x2, openedOut f g n m pl w (.returned (.agg #[.slice (some ⟨br, 0, none⟩) n cr, .int .u64 vv, .slice al m cl])) (((wr.setCell ⟨X, 0, none⟩ x0).setCell ⟨X, 1, none⟩ x1).setCell ⟨X, 2, none⟩ x2)) := hid (fun x0 x1 x2 => opened_end HM.out.hX HBW.out HVV.out hrr hlo hop (fun a e => by have h1 := hal a e; have h2 := HM.out.lt; omega) (fun j hj => (HQ.out.ks.far j hj).mono fun q hq => by have h1 := hq.1; have h2 := HM.out.lt; omega) x0 x1 x2)
          have HZ := hid (HM.out.z6 wr HQ.out.but)
          obtain ⟨⟨s0, s1, s2⟩, sf⟩ := HZ.out
          have sf0 := sf 0 (by omega)
          have sf1 := sf 1 (by omega)
          have sf2 := sf 2 (by omega)
          have x0 := HQ.out.c0
          have x1 := HQ.out.c1
          have x2 := HQ.out.c2
          have HB3 := hid (fun p q r => (setB3 (p := p) (q := q) (r := r) s0 s1 s2))
          clear sf hop hal hrt hrr hlo
          go_wp2_with fail
          refine bodyPost_ret (results_opn1 rfl rfl (HB3.out _ _ _).c0 (HB3.out _ _ _).c1 (HB3.out _ _ _).c2) rfl ?_
          exact HEN.out _ _ _

end Go.Proofs.YtnnjajmkfgnhcaaDoor

/-
  A contract of slices.Equal at numbers of 64 bits, where both lists have the same numbers; nothing is written.
-/
namespace Go.Proofs.YtnnjajmkfgnhcaaDoor
open Go.RowKit
set_option linter.unusedVariables false
attribute [local go_sem ↓] Go.wp_at_zero Go.wp_at_succ

set_option maxHeartbeats 2000000 in
set_option maxRecDepth 100000 in
theorem equal_ok (a0 a1 : Option Addr) (n c0 c1 : Nat) (f g : Nat → Int) (w : World) (hn : n ≤ 100000) (p0 : PRow w a0 n f) (p1 : PRow w a1 n g) (e : ∀ j, j < n → f j = g j) :
    Calls Tryd.prog 41 #[.slice a0 n c0, .slice a1 n c1] w fun e w' => e = .returned (.bool true) ∧ Below w.heap.size w w' := by
  have H0 := hid p0
  have H1 := hid (p1.congr fun j hj => (e j hj).symm)
  clear p0 p1 e
  go_enter Tryd.func41, Tryd.ntmps41
  go_wp2_with fail
  go_loopg [13] n (fun q i wr => ∃ k : Nat, k ≤ n ∧ q = n - k ∧ i = .int .i64 (k : Int) ∧ Hid (PRow wr a0 n f) ∧ Hid (PRow wr a1 n f) ∧ Hid (Below w.heap.size w wr))
  case atStart => exact ⟨0, by omega, rfl, rfl, H0, H1, hid (Below.refl _ _)⟩
  case round =>
    clear H0 H1
    obtain ⟨k, hk, rfl, rfl, H0, H1, HB⟩ := hrel
    by_cases hlt : k < n
    · obtain ⟨b1, o1, rfl, r1⟩ := H0.out (by omega)
      obtain ⟨b2, o2, rfl, r2⟩ := H1.out (by omega)
      have c1 := r1 k hlt
      have c2 := r2 k hlt
      clear r1 r2
      obtain ⟨a, ha⟩ : ∃ a, f k = a := ⟨_, rfl⟩
      rw [ha] at c1 c2
      clear ha
      have k0 : (0 : Int) ≤ (k : Int) := by omega
      have k1 : (k : Int) < (n : Int) := by omega
      go_wp2_with fail
      go_region_with (first | fail)
      all_goals (go_wp2_with fail)
      all_goals (go_roundg (n - (k + 1)))
      all_goals first | (go_light; omega) | (exact ⟨k + 1, by omega, rfl, by go_num, hid H0.out.drew, hid H1.out.drew, hid HB.out.drew⟩)
    · have e : k = n := by omega
      subst e
      go_wp2_with fail
      go_ret
      exact ⟨rfl, HB.out⟩

end Go.Proofs.YtnnjajmkfgnhcaaDoor

/-
  A contract of tallyref's SameProof, of two proofs that tell the same; nothing that was there is written.
-/
namespace Go.Proofs.YtnnjajmkfgnhcaaDoor
open Go.RowKit
set_option linter.unusedVariables false
attribute [local go_sem ↓] Go.wp_at_zero Go.wp_at_succ

/-- Two boxes. -/
theorem two_boxes (w : World) (u v x y : Value) (t t' : TypeId) : Below w.heap.size w ((w.alloc (.cells #[u, v] t)).alloc (.cells #[x, y] t')) ∧ Box2 ((w.alloc (.cells #[u, v] t)).alloc (.cells #[x, y] t')) w.heap.size u v ∧ Box2 ((w.alloc (.cells #[u, v] t)).alloc (.cells #[x, y] t')) (w.heap.size + 1) x y := by
  have h1 := Box2.new w u v t
  have e : (w.alloc (.cells #[u, v] t)).heap.size = w.heap.size + 1 := by simp
  have hb := (Below.refl w.heap.size w).alloc (Nat.le_refl _) (.cells #[u, v] t)
  generalize w.alloc (.cells #[u, v] t) = W1 at h1 e hb
  have hal := (Below.refl W1.heap.size W1).alloc (Nat.le_refl _) (.cells #[x, y] t')
  exact ⟨hb.trans (hal.mono hb.size), h1.kept hal, by rw [← e]; exact Box2.new W1 x y t'⟩

end Go.Proofs.YtnnjajmkfgnhcaaDoor

/-
  A contract of tallyref's SameOpening, of two openings that tell the same; nothing that was there is written.
-/
namespace Go.Proofs.YtnnjajmkfgnhcaaDoor
open Go.RowKit
set_option linter.unusedVariables false
attribute [local go_sem ↓] Go.wp_at_zero Go.wp_at_succ

theorem arr_eq {u0 u1 : Int} (a0 : 0 ≤ u0) (a1 : u0 ≤ 18446744073709551615) (b0 : 0 ≤ u1) (b1 : u1 ≤ 18446744073709551615) (W : World) :
    (Op.equalIn 10000 41 (.agg #[.int .u64 u0, .int .u64 u1]) (.agg #[.int .u64 u0, .int .u64 u1])).run Tryd.prog W = .ok true W := by
  obtain ⟨r, hr, hiff⟩ := run_equalIn_deep (P := Tryd.prog) 9998 2 41 (by kernel_rfl) W 2 2 (.agg #[.int .u64 u0, .int .u64 u1]) (.agg #[.int .u64 u0, .int .u64 u1]) [.int .u64 u0, .int .u64 u1] [.int .u64 u0, .int .u64 u1]
    (by simp [Value.formed, Tryd.arr2c]) (by simp [Value.formed, Tryd.arr2c])
    (by simpa [Value.cells] using arr_lits (u64_wf a0 a1) (u64_wf b0 b1)) (by simpa [Value.cells] using arr_lits (u64_wf a0 a1) (u64_wf b0 b1))
  rw [hiff.2 rfl] at hr
  exact hr
theorem arr_neq {u0 u1 : Int} (a0 : 0 ≤ u0) (a1 : u0 ≤ 18446744073709551615) (b0 : 0 ≤ u1) (b1 : u1 ≤ 18446744073709551615) (W : World) :
    (binOp .neq 41 (.agg #[.int .u64 u0, .int .u64 u1]) (.agg #[.int .u64 u0, .int .u64 u1])).run Tryd.prog W = .ok (.bool false) W := by
  simp only [binOp]
  simp [Op.equal, Op.maxDepth, arr_eq a0 a1 b0 b1 W]
/-- Two boxes of three. -/
theorem two_boxes3 (w : World) (u v r x y z : Value) (t t' : TypeId) : Below w.heap.size w ((w.alloc (.cells #[u, v, r] t)).alloc (.cells #[x, y, z] t')) ∧ Bx3 ((w.alloc (.cells #[u, v, r] t)).alloc (.cells #[x, y, z] t')) w.heap.size u v r ∧ Bx3 ((w.alloc (.cells #[u, v, r] t)).alloc (.cells #[x, y, z] t')) (w.heap.size + 1) x y z := by
  have h1 := Bx3.new w u v r t
  have e : (w.alloc (.cells #[u, v, r] t)).heap.size = w.heap.size + 1 := by simp
  have hb := bel_new w (.cells #[u, v, r] t)
  generalize w.alloc (.cells #[u, v, r] t) = W1 at h1 e hb
  have hal := bel_new W1 (.cells #[x, y, z] t')
  exact ⟨hb.trans (hal.mono hb.size), h1.kept hal, by rw [← e]; exact Bx3.new W1 x y z t'⟩

set_option maxHeartbeats 2000000 in
set_option maxRecDepth 100000 in
theorem soq_ok (a0 a1 : Option Addr) (n c0 c1 : Nat) (F : Nat → Nat → Int) (w : World) (hn : n ≤ 100000) (hF : ∀ k e, 0 ≤ F k e ∧ F k e ≤ 18446744073709551615) (p0 : QRow w a0 n F) (p1 : QRow w a1 n F) :
    Calls Tryd.prog 44 #[.slice a0 n c0, .slice a1 n c1] w fun e w' => e = .returned (.bool true) ∧ Below w.heap.size w w' := by
  have H0 := hid p0
  have H1 := hid p1
  clear p0 p1
  go_enter Tryd.func44, Tryd.ntmps44
  go_wp2_with fail
  go_loopg [13] n (fun q i wr => ∃ k : Nat, k ≤ n ∧ q = n - k ∧ i = .int .i64 (k : Int) ∧ Hid (Below w.heap.size w wr))
  case atStart => exact ⟨0, by omega, rfl, rfl, hid (Below.refl _ _)⟩
  case round =>
    obtain ⟨k, hk, rfl, rfl, HB⟩ := hrel
    by_cases hlt : k < n
    · obtain ⟨b1, o1, rfl, r1⟩ := H0.out.kept HB.out (by omega)
      obtain ⟨b2, o2, rfl, r2⟩ := H1.out.kept HB.out (by omega)
      obtain ⟨c0, c1⟩ := r1 k hlt
      obtain ⟨d0, d1⟩ := r2 k hlt
      have h0 := hF k 0
      have h1 := hF k 1
      clear r1 r2
      rw [Nat.mul_comm 2 k] at c0 c1 d0 d1
      obtain ⟨a, ha⟩ : ∃ a, F k 0 = a := ⟨_, rfl⟩
      obtain ⟨b, hb⟩ : ∃ a, F k 1 = a := ⟨_, rfl⟩
      rw [ha] at c0 d0 h0
      rw [hb] at c1 d1 h1
      clear ha hb
      have k0 : (0 : Int) ≤ (k : Int) := by omega
      have k1 : (k : Int) < (n : Int) := by omega
      have hq := arr_neq h0.1 h0.2 h1.1 h1.2
      go_wp2_with fail
      go_quiet (fail)
      have HBQ : Hid (Below w.heap.size w (wr.drewN nq)) := hid (Below.drewN' HB.out _)
      generalize wr.drewN nq = W6 at HBQ ⊢
      go_wp2_with fail
      go_roundg (n - (k + 1))
      case measure => go_light; omega
      case rel => exact ⟨k + 1, by omega, rfl, by go_num, HBQ⟩
    · have e : k = n := by omega
      subst e
      go_wp2_with fail
      go_ret
      exact ⟨rfl, HB.out⟩
set_option maxHeartbeats 4000000 in
set_option maxRecDepth 100000 in
theorem so11_ok (a0 a1 b0 b1 : Option Addr) (l0 l1 c0 c1 d0 d1 : Nat) (f0 f1 : Nat → Int) (w : World) (h0 : l0 ≤ 100000) (h1 : l1 ≤ 100000) (p0 : PRow w a0 l0 f0) (p1 : PRow w a1 l1 f1) (q0 : PRow w b0 l0 f0) (q1 : PRow w b1 l1 f1) :
    Calls Tryd.prog 46 #[.agg #[.slice a0 l0 c0, .slice a1 l1 c1], .agg #[.slice b0 l0 d0, .slice b1 l1 d1]] w fun e w' => e = .returned (.bool true) ∧ Below w.heap.size w w' := by
  have HE := hid (fun W (h : Below w.heap.size w W) => equal_ok a0 b0 l0 c0 d0 f0 f0 W h0 (p0.kept h) (q0.kept h) (fun _ _ => rfl))
  have HF := hid (fun W (h : Below w.heap.size w W) => equal_ok a1 b1 l1 c1 d1 f1 f1 W h1 (p1.kept h) (q1.kept h) (fun _ _ => rfl))
  obtain ⟨hb0, hx0, hx1⟩ := two_boxes w (.slice a0 l0 c0) (.slice a1 l1 c1) (.slice b0 l0 d0) (.slice b1 l1 d1) 73 73
  have HB0 := hid (And.intro hb0 (And.intro hx0 hx1))
  clear p0 p1 q0 q1 hb0
  obtain ⟨x0, x1, xl⟩ := hx0
  obtain ⟨y0, y1, yl⟩ := hx1
  go_enter Tryd.func46, Tryd.ntmps46
  go_wp2_with fail
  clear x0 x1 xl y0 y1 yl
  obtain ⟨X, hX⟩ : ∃ X, w.heap.size = X := ⟨_, rfl⟩
  obtain ⟨W0, hW0⟩ : ∃ W0, (w.alloc (.cells #[.slice a0 l0 c0, .slice a1 l1 c1] 73)).alloc (.cells #[.slice b0 l0 d0, .slice b1 l1 d1] 73) = W0 := ⟨_, rfl⟩
  rw [hW0] at HB0 ⊢
  have HBX : Hid (Below w.heap.size w W0 ∧ Box2 W0 X (.slice a0 l0 c0) (.slice a1 l1 c1) ∧ Box2 W0 (X + 1) (.slice b0 l0 d0) (.slice b1 l1 d1)) := hid (by rw [← hX]; exact HB0.out)
  rw [hX]
  clear hX HB0 hW0
  refine (HE.out _ HBX.out.1).mono ?_
  rintro e w1 ⟨rfl, hb⟩
  obtain ⟨x0, x1, xl⟩ := HBX.out.2.1.kept hb
  obtain ⟨y0, y1, yl⟩ := HBX.out.2.2.kept hb
  have HB1 := hid (HBX.out.1.trans (hb.mono HBX.out.1.size))
  clear hb
  go_wp2_with fail
  refine (HF.out _ HB1.out).mono ?_
  rintro e w2 ⟨rfl, hb⟩
  have HB2 := hid (HB1.out.trans (hb.mono HB1.out.size))
  clear hb
  go_wp2_with fail
  go_ret
  exact ⟨rfl, HB2.out⟩
set_option maxHeartbeats 4000000 in
set_option maxRecDepth 100000 in
theorem sof_ok (ap aq : Option Addr) (n cp cq : Nat) (A A2 : Nat → Nat → Option Addr) (L C C2 : Nat → Nat → Nat) (F : Nat → Nat → Nat → Int) (w : World) (h1 : n ≤ 1000) (hL : ∀ k, k < n → L k 0 ≤ 100000 ∧ L k 1 ≤ 100000) (h0 : TRow w ap n A L C F) (h2 : TRow w aq n A2 L C2 F) :
    Calls Tryd.prog 45 #[.slice ap n cp, .slice aq n cq, .func (.func 46) #[] #[]] w fun e w' => e = .returned (.bool true) ∧ Below w.heap.size w w' := by
  have H0 := hid h0
  have H2 := hid h2
  have HL := hid hL
  clear h0 h2 hL
  go_enter Tryd.func45, Tryd.ntmps45
  go_wp2_with fail
  go_loopg [17] n (fun q i wr => ∃ k : Nat, k ≤ n ∧ q = n - k ∧ i = .int .i64 (k : Int) ∧ Hid (Below w.heap.size w wr))
  case atStart => exact ⟨0, by omega, rfl, rfl, hid (Below.refl _ _)⟩
  case round =>
    obtain ⟨k, hk, rfl, rfl, HB⟩ := hrel
    by_cases hlt : k < n
    · obtain ⟨b1, o1, e1, r1⟩ := H0.out.kept HB.out (by omega)
      obtain ⟨b2, o2, e2, r2⟩ := H2.out.kept HB.out (by omega)
      subst e1
      subst e2
      obtain ⟨c0, c1, c2, c3⟩ := r1 k hlt
      obtain ⟨d0, d1, d2, d3⟩ := r2 k hlt
      rw [Nat.mul_comm 2 k] at c0 c1 d0 d1
      obtain ⟨m0, m1⟩ := HL.out k hlt
      generalize L k 0 = l0 at c0 c2 d0 d2 m0
      generalize L k 1 = l1 at c1 c3 d1 d3 m1
      generalize A k 0 = p0 at c0 c2
      generalize A k 1 = p1 at c1 c3
      generalize A2 k 0 = q0 at d0 d2
      generalize A2 k 1 = q1 at d1 d3
      generalize C k 0 = s0 at c0
      generalize C k 1 = s1 at c1
      generalize C2 k 0 = t0 at d0
      generalize C2 k 1 = t1 at d1
      have HS := hid (fun W (h : Below wr.heap.size wr W) => so11_ok p0 p1 q0 q1 l0 l1 s0 s1 t0 t1 (F k 0) (F k 1) W m0 m1 (c2.kept h) (c3.kept h) (d2.kept h) (d3.kept h))
      clear r1 r2 c2 c3 d2 d3 m0 m1
      obtain ⟨hb0, hx0, hx1⟩ := two_boxes wr (.slice p0 l0 s0) (.slice p1 l1 s1) (.slice q0 l0 t0) (.slice q1 l1 t1) 73 73
      have HB0 := hid hb0
      have hal := bel_new wr (.cells #[.slice p0 l0 s0, .slice p1 l1 s1] 73)
      have d0' := (hal.cell (World.block_lt_of_cell? wr _ d0)).trans d0
      have d1' := (hal.cell (World.block_lt_of_cell? wr _ d1)).trans d1
      clear hb0 hal
      obtain ⟨x0, x1, xl⟩ := hx0
      obtain ⟨y0, y1, yl⟩ := hx1
      have k0 : (0 : Int) ≤ (k : Int) := by omega
      have k1 : (k : Int) < (n : Int) := by omega
      go_wp2_with fail
      refine (HS.out _ HB0.out).mono ?_
      rintro e w1 ⟨rfl, hb⟩
      have HB1 := hid (HB.out.trans ((HB0.out.trans (hb.mono HB0.out.size)).mono HB.out.size))
      clear hb x0 x1 xl y0 y1 yl c0 c1 d0 d1 d0' d1'
      go_wp2_with fail
      go_roundg (n - (k + 1))
      case measure => go_light; omega
      case rel => exact ⟨k + 1, by omega, rfl, by go_num, HB1⟩
    · have e : k = n := by omega
      subst e
      have k1 : ¬ ((k : Int) < (k : Int)) := by omega
      go_wp2_with fail
      go_ret
      exact ⟨rfl, HB.out⟩
set_option maxHeartbeats 4000000 in
set_option maxRecDepth 100000 in
theorem so1_ok (pa pa2 ta ta2 : Option Addr) (np pc pc2 nt tc tc2 : Nat) (P : Nat → Nat → Int) (A A2 : Nat → Nat → Option Addr) (L C C2 : Nat → Nat → Nat) (F : Nat → Nat → Nat → Int) (w : World) (h1 : np ≤ 1000) (h2 : nt ≤ 1000) (hP : ∀ k e, 0 ≤ P k e ∧ P k e ≤ 18446744073709551615) (hL : ∀ k, k < nt → L k 0 ≤ 100000 ∧ L k 1 ≤ 100000) (r0 : QRow w pa np P) (r1 : QRow w pa2 np P) (p0 : TRow w ta nt A L C F) (p1 : TRow w ta2 nt A2 L C2 F) :
    Calls Tryd.prog 43 #[.agg #[.slice pa np pc, .slice ta nt tc], .agg #[.slice pa2 np pc2, .slice ta2 nt tc2]] w fun e w' => e = .returned (.bool true) ∧ Below w.heap.size w w' := by
  have HE := hid (fun W (h : Below w.heap.size w W) => soq_ok pa pa2 np pc pc2 P W (by omega) hP (r0.kept h) (r1.kept h))
  have HF := hid (fun W (h : Below w.heap.size w W) => sof_ok ta ta2 nt tc tc2 A A2 L C C2 F W h2 hL (p0.kept h) (p1.kept h))
  obtain ⟨hb0, hx0, hx1⟩ := two_boxes w (.slice pa np pc) (.slice ta nt tc) (.slice pa2 np pc2) (.slice ta2 nt tc2) 72 72
  have HB0 := hid (And.intro hb0 (And.intro hx0 hx1))
  clear p0 p1 r0 r1 hb0 hP hL
  obtain ⟨x0, x1, xl⟩ := hx0
  obtain ⟨y0, y1, yl⟩ := hx1
  go_enter Tryd.func43, Tryd.ntmps43
  go_wp2_with fail
  clear x0 x1 xl y0 y1 yl
  obtain ⟨X, hX⟩ : ∃ X, w.heap.size = X := ⟨_, rfl⟩
  obtain ⟨W0, hW0⟩ : ∃ W0, (w.alloc (.cells #[.slice pa np pc, .slice ta nt tc] 72)).alloc (.cells #[.slice pa2 np pc2, .slice ta2 nt tc2] 72) = W0 := ⟨_, rfl⟩
  rw [hW0] at HB0 ⊢
  have HBX : Hid (Below w.heap.size w W0 ∧ Box2 W0 X (.slice pa np pc) (.slice ta nt tc) ∧ Box2 W0 (X + 1) (.slice pa2 np pc2) (.slice ta2 nt tc2)) := hid (by rw [← hX]; exact HB0.out)
  rw [hX]
  clear hX HB0 hW0
  refine (HE.out _ HBX.out.1).mono ?_
  rintro e w1 ⟨rfl, hb⟩
  obtain ⟨x0, x1, xl⟩ := HBX.out.2.1.kept hb
  obtain ⟨y0, y1, yl⟩ := HBX.out.2.2.kept hb
  have HB1 := hid (HBX.out.1.trans (hb.mono HBX.out.1.size))
  clear hb
  go_wp2_with fail
  refine (HF.out _ HB1.out).mono ?_
  rintro e w2 ⟨rfl, hb⟩
  have HB2 := hid (HB1.out.trans (hb.mono HB1.out.size))
  clear hb
  go_wp2_with fail
  go_ret
  exact ⟨rfl, HB2.out⟩
set_option maxHeartbeats 4000000 in
set_option maxRecDepth 100000 in
theorem sok_ok (ap aq : Option Addr) (N cp cq : Nat) (o : OQ) (m m2 : OM) (w : World) (hN : o.n = N) (h1 : N ≤ 1000) (hov : o.nums) (hb : ∀ j, j < N → o.np j ≤ 1000 ∧ o.nt j ≤ 1000 ∧ ∀ k, k < o.nt j → o.tl j k 0 ≤ 100000 ∧ o.tl j k 1 ≤ 100000) (h0 : OpRow w ap o m) (h2 : OpRow w aq o m2) :
    Calls Tryd.prog 42 #[.slice ap N cp, .slice aq N cq, .func (.func 43) #[] #[]] w fun e w' => e = .returned (.bool true) ∧ Below w.heap.size w w' := by
  have H0 := hid h0
  have H2 := hid h2
  have HP := hid hN
  have HL := hid hb
  have HV := hid hov
  clear h0 h2 hN hb hov
  go_enter Tryd.func42, Tryd.ntmps42
  go_wp2_with fail
  go_loopg [17] N (fun q i wr => ∃ k : Nat, k ≤ N ∧ q = N - k ∧ i = .int .i64 (k : Int) ∧ Hid (Below w.heap.size w wr))
  case atStart => exact ⟨0, by omega, rfl, rfl, hid (Below.refl _ _)⟩
  case round =>
    obtain ⟨k, hk, rfl, rfl, HB⟩ := hrel
    by_cases hlt : k < N
    · obtain ⟨b1, o1, e1, r1⟩ := H0.out.kept HB.out (by rw [HP.out]; omega)
      obtain ⟨b2, o2, e2, r2⟩ := H2.out.kept HB.out (by rw [HP.out]; omega)
      subst e1
      subst e2
      obtain ⟨c0, c1, c2, c3⟩ := r1 k (by rw [HP.out]; exact hlt)
      obtain ⟨d0, d1, d2, d3⟩ := r2 k (by rw [HP.out]; exact hlt)
      rw [Nat.mul_comm 2 k] at c0 c1 d0 d1
      obtain ⟨l1, l2, l3⟩ := HL.out k hlt
      have hP := fun j e => (⟨(HV.out k j e).1, (HV.out k j e).2.1⟩ : 0 ≤ o.P k j e ∧ o.P k j e ≤ 18446744073709551615)
      generalize o.np k = np at c0 c2 d0 d2 l1
      generalize o.nt k = nt at c1 c3 d1 d3 l2 l3
      generalize m.pa k = p0 at c0 c2
      generalize m.ta k = p1 at c1 c3
      generalize m2.pa k = q0 at d0 d2
      generalize m2.ta k = q1 at d1 d3
      generalize m.pc k = s0 at c0
      generalize m.tc k = s1 at c1
      generalize m2.pc k = t0 at d0
      generalize m2.tc k = t1 at d1
      have HS := hid (fun W (h : Below wr.heap.size wr W) => so1_ok p0 q0 p1 q1 np s0 t0 nt s1 t1 (o.P k) (m.A k) (m2.A k) (o.tl k) (m.C k) (m2.C k) (o.T k) W l1 l2 hP l3 (c2.kept h) (d2.kept h) (c3.kept h) (d3.kept h))
      clear r1 r2 c2 c3 d2 d3 l1 l2 l3 hP
      obtain ⟨hb0, hx0, hx1⟩ := two_boxes wr (.slice p0 np s0) (.slice p1 nt s1) (.slice q0 np t0) (.slice q1 nt t1) 72 72
      have HB0 := hid hb0
      have hal := bel_new wr (.cells #[.slice p0 np s0, .slice p1 nt s1] 72)
      have d0' := (hal.cell (World.block_lt_of_cell? wr _ d0)).trans d0
      have d1' := (hal.cell (World.block_lt_of_cell? wr _ d1)).trans d1
      clear hb0 hal
      obtain ⟨x0, x1, xl⟩ := hx0
      obtain ⟨y0, y1, yl⟩ := hx1
      have k0 : (0 : Int) ≤ (k : Int) := by omega
      have k1 : (k : Int) < (N : Int) := by omega
      go_wp2_with fail
      refine (HS.out _ HB0.out).mono ?_
      rintro e w1 ⟨rfl, hb⟩
      have HB1 := hid (HB.out.trans ((HB0.out.trans (hb.mono HB0.out.size)).mono HB.out.size))
      clear hb x0 x1 xl y0 y1 yl c0 c1 d0 d1 d0' d1'
      go_wp2_with fail
      go_roundg (N - (k + 1))
      case measure => go_light; omega
      case rel => exact ⟨k + 1, by omega, rfl, by go_num, HB1⟩
    · have e : k = N := by omega
      subst e
      have k1 : ¬ ((k : Int) < (k : Int)) := by omega
      go_wp2_with fail
      go_ret
      exact ⟨rfl, HB.out⟩
set_option maxHeartbeats 4000000 in
set_option maxRecDepth 100000 in
theorem sameopening_ok (ar ar2 al al2 : Option Addr) (nr cr cr2 N cl cl2 : Nat) (v : Int) (R : Nat → Int) (o : OQ) (m m2 : OM) (w : World) (hr : nr ≤ 1000) (hN : o.n = N) (h1 : N ≤ 1000) (hov : o.nums) (hb : ∀ j, j < N → o.np j ≤ 1000 ∧ o.nt j ≤ 1000 ∧ ∀ k, k < o.nt j → o.tl j k 0 ≤ 100000 ∧ o.tl j k 1 ≤ 100000) (p0 : PRow w ar nr R) (p1 : PRow w ar2 nr R) (h0 : OpRow w al o m) (h2 : OpRow w al2 o m2) :
    Calls Tryd.prog 12 #[.agg #[.slice ar nr cr, .int .u64 v, .slice al N cl], .agg #[.slice ar2 nr cr2, .int .u64 v, .slice al2 N cl2]] w fun e w' => e = .returned (.bool true) ∧ Below w.heap.size w w' := by
  have HE := hid (fun W (h : Below w.heap.size w W) => equal_ok ar ar2 nr cr cr2 R R W (by omega) (p0.kept h) (p1.kept h) (fun _ _ => rfl))
  have HF := hid (fun W (h : Below w.heap.size w W) => sok_ok al al2 N cl cl2 o m m2 W hN h1 hov hb (h0.kept h) (h2.kept h))
  obtain ⟨hb0, hx0, hx1⟩ := two_boxes3 w (.slice ar nr cr) (.int .u64 v) (.slice al N cl) (.slice ar2 nr cr2) (.int .u64 v) (.slice al2 N cl2) 29 29
  have HB0 := hid (And.intro hb0 (And.intro hx0 hx1))
  clear p0 p1 h0 h2 hb0 hN hov hb
  obtain ⟨x0, x1, x2⟩ := hx0
  obtain ⟨y0, y1, y2⟩ := hx1
  go_enter Tryd.func12, Tryd.ntmps12
  go_wp2_with fail
  clear x0 x1 x2 y0 y1 y2
  obtain ⟨X, hX⟩ : ∃ X, w.heap.size = X := ⟨_, rfl⟩
  obtain ⟨W0, hW0⟩ : ∃ W0, (w.alloc (.cells #[.slice ar nr cr, .int .u64 v, .slice al N cl] 29)).alloc (.cells #[.slice ar2 nr cr2, .int .u64 v, .slice al2 N cl2] 29) = W0 := ⟨_, rfl⟩
  rw [hW0] at HB0 ⊢
  have HBX : Hid (Below w.heap.size w W0 ∧ Bx3 W0 X (.slice ar nr cr) (.int .u64 v) (.slice al N cl) ∧ Bx3 W0 (X + 1) (.slice ar2 nr cr2) (.int .u64 v) (.slice al2 N cl2)) := hid (by rw [← hX]; exact HB0.out)
  rw [hX]
  clear hX HB0 hW0
  refine (HE.out _ HBX.out.1).mono ?_
  rintro e w1 ⟨rfl, hb⟩
  obtain ⟨x0, x1, x2⟩ := HBX.out.2.1.kept hb
  obtain ⟨y0, y1, y2⟩ := HBX.out.2.2.kept hb
  have HB1 := hid (HBX.out.1.trans (hb.mono HBX.out.1.size))
  clear hb
  go_wp2_with fail
  refine (HF.out _ HB1.out).mono ?_
  rintro e w2 ⟨rfl, hb⟩
  have HB2 := hid (HB1.out.trans (hb.mono HB1.out.size))
  clear hb
  go_wp2_with fail
  go_ret
  exact ⟨rfl, HB2.out⟩

end Go.Proofs.YtnnjajmkfgnhcaaDoor

/-
  Contracts of package open's Open, of arguments that have an error: an empty opening and the error; nothing that was there is written.
-/
namespace Go.Proofs.YtnnjajmkfgnhcaaDoor
open Go.RowKit
set_option linter.unusedVariables false
attribute [local go_sem ↓] Go.wp_at_zero Go.wp_at_succ

/-- An empty opening and an error. -/
def openNo (w : World) (x : Int) (e : Ending) (w' : World) : Prop := e = .returned (.tuple #[.agg #[.slice none 0 0, .int .u64 0, .slice none 0 0], .int .i64 x]) ∧ Below w.heap.size w w'
theorem zero_again {w W : World} {X : Nat} (h : Below w.heap.size w W) (hX : w.heap.size = X) (hz : Zero3 W X (.slice none 0 0) (.int .u64 0) (.slice none 0 0)) : Zero3 (((W.setCell ⟨X, 0, none⟩ (.slice none 0 0)).setCell ⟨X, 1, none⟩ (.int .u64 0)).setCell ⟨X, 2, none⟩ (.slice none 0 0)) X (.slice none 0 0) (.int .u64 0) (.slice none 0 0) ∧ Below w.heap.size w (((W.setCell ⟨X, 0, none⟩ (.slice none 0 0)).setCell ⟨X, 1, none⟩ (.int .u64 0)).setCell ⟨X, 2, none⟩ (.slice none 0 0)) :=
  ⟨⟨setB3 hz.c.c0 hz.c.c1 hz.c.c2, fun j hj => by rw [World.frozen?_setCell, World.frozen?_setCell, World.frozen?_setCell]; exact hz.f j hj⟩, h.trans ((but_set3 W X _ _ _).below (fun k hk => by rw [show k = X from hk, hX]; exact Nat.le_refl _) h.size)⟩

set_option maxHeartbeats 4000000 in
set_option maxRecDepth 100000 in
theorem open_vars (ao ap apl : Option Addr) (N cap np cp m cpl : Nat) (w : World) (h : ∀ n, n ≤ 8 → N ≠ 2 ^ n) (hmax : N ≤ maxLen) :
    Calls Tryd.prog 11 #[.slice ao N cap, .slice ap np cp, .slice apl m cpl] w fun e w' => openNo w 4 e w' := by
  have hb0 := bel_new w (.cells #[.slice none 0 0, .int .u64 0, .slice none 0 0] 29)
  have HZ0 := hid (Zero3.new w (.slice none 0 0) (.int .u64 0) (.slice none 0 0) 29)
  have HVA := hid (fun W => vars_bad ao N cap W h hmax)
  have HB0 := hid hb0
  clear hb0 h hmax
  go_enter Tryd.func11, Tryd.ntmps11
  go_wp2_with fail
  obtain ⟨X0, hX0⟩ : ∃ X0, w.heap.size = X0 := ⟨_, rfl⟩
  have HX0 := hid hX0
  rw [hX0] at HZ0 ⊢
  clear hX0
  generalize w.alloc (.cells #[.slice none 0 0, .int .u64 0, .slice none 0 0] 29) = W0 at HZ0 HB0 ⊢
  refine (HVA.out _).mono ?_
  rintro e w' ⟨rfl, hw⟩
  obtain rfl := hw.symm
  obtain ⟨⟨x0, x1, x2⟩, hf⟩ := HZ0.out
  have f0 := hf 0 (by omega)
  have f1 := hf 1 (by omega)
  have f2 := hf 2 (by omega)
  have HZA := hid (zero_again HB0.out HX0.out HZ0.out)
  clear hf
  go_wp2_with fail
  refine bodyPost_ret (results_opn rfl rfl HZA.out.1.c.c0 HZA.out.1.c.c1 HZA.out.1.c.c2) rfl ?_
  exact ⟨rfl, HZA.out.2⟩
set_option maxHeartbeats 4000000 in
set_option maxRecDepth 100000 in
theorem open_none (ao ap apl : Option Addr) (cap np cp m cpl : Nat) (w : World) (ht : Tab w) :
    Calls Tryd.prog 11 #[.slice ao 1 cap, .slice ap np cp, .slice apl m cpl] w fun e w' => openNo w 4 e w' := by
  have hb0 := bel_new w (.cells #[.slice none 0 0, .int .u64 0, .slice none 0 0] 29)
  have HZ0 := hid (Zero3.new w (.slice none 0 0) (.int .u64 0) (.slice none 0 0) 29)
  have HVA := hid (fun W (h : Below w.heap.size w W) => vars_ok ao 0 1 cap W (by omega) rfl (ht.kept h ht.1))
  have HB0 := hid hb0
  clear hb0 ht
  go_enter Tryd.func11, Tryd.ntmps11
  go_wp2_with fail
  obtain ⟨X0, hX0⟩ : ∃ X0, w.heap.size = X0 := ⟨_, rfl⟩
  have HX0 := hid hX0
  rw [hX0] at HZ0 ⊢
  clear hX0
  generalize w.alloc (.cells #[.slice none 0 0, .int .u64 0, .slice none 0 0] 29) = W0 at HZ0 HB0 ⊢
  refine (HVA.out _ HB0.out).mono ?_
  rintro e w' ⟨rfl, hw⟩
  obtain rfl := hw.symm
  obtain ⟨⟨x0, x1, x2⟩, hf⟩ := HZ0.out
  have f0 := hf 0 (by omega)
  have f1 := hf 1 (by omega)
  have f2 := hf 2 (by omega)
  have HZA := hid (zero_again HB0.out HX0.out HZ0.out)
  clear hf
  go_wp2_with fail
  refine bodyPost_ret (results_opn rfl rfl HZA.out.1.c.c0 HZA.out.1.c.c1 HZA.out.1.c.c2) rfl ?_
  exact ⟨rfl, HZA.out.2⟩
set_option maxHeartbeats 4000000 in
set_option maxRecDepth 100000 in
theorem open_arg (n N cap np cp m cpl : Nat) (ao ap apl : Option Addr) (p : Nat → Int) (w : World) (n1 : 1 ≤ n) (n8 : n ≤ 8) (hN : N = 2 ^ n) (ht : Tab w) (hm : m ≤ maxLen) (hnp : np ≤ maxLen) (hi : IRowP w apl m p) (hbad : np ≠ n ∨ ¬ plOk m n p) :
    Calls Tryd.prog 11 #[.slice ao N cap, .slice ap np cp, .slice apl m cpl] w fun e w' => openNo w 1 e w' := by
  have hb0 := bel_new w (.cells #[.slice none 0 0, .int .u64 0, .slice none 0 0] 29)
  have HZ0 := hid (Zero3.new w (.slice none 0 0) (.int .u64 0) (.slice none 0 0) 29)
  have HVA := hid (fun W (h : Below w.heap.size w W) => vars_ok ao n N cap W n8 hN (ht.kept h ht.1))
  have HAP := hid (fun W (h : Below w.heap.size w W) => arePlaces_any m cpl n apl p W n1 n8 hm (hi.kept h))
  have HB0 := hid hb0
  have hz : ((n : Int) == 0) = false := by rw [beq_eq_false_iff_ne]; omega
  have np63 : (np : Int) ≤ 9223372036854775807 := by have : maxLen ≤ 9223372036854775807 := by decide
                                                     omega
  have HBD := hid hbad
  clear hb0 ht hN hi hm hnp hbad
  go_enter Tryd.func11, Tryd.ntmps11
  go_wp2_with fail
  obtain ⟨X0, hX0⟩ : ∃ X0, w.heap.size = X0 := ⟨_, rfl⟩
  have HX0 := hid hX0
  rw [hX0] at HZ0 ⊢
  clear hX0
  generalize w.alloc (.cells #[.slice none 0 0, .int .u64 0, .slice none 0 0] 29) = W0 at HZ0 HB0 ⊢
  refine (HVA.out _ HB0.out).mono ?_
  rintro e w' ⟨rfl, hw⟩
  obtain rfl := hw.symm
  have HZA := hid (zero_again HB0.out HX0.out HZ0.out)
  by_cases hnn : np = n
  · subst hnn
    have hnp : ¬ plOk m np p := HBD.out.resolve_left (fun h => h rfl)
    have hnn : ((np : Int) != (np : Int)) = false := by simp
    go_wp2_with fail
    refine (HAP.out _ HB0.out).mono ?_
    rintro e w' ⟨r, rfl, hrr, hw⟩
    obtain rfl := hw.symm
    have hr2 : r = false := by
      cases r
      · rfl
      · exact absurd (hrr.1 rfl) hnp
    subst hr2
    clear hrr hnp
    obtain ⟨⟨x0, x1, x2⟩, hf⟩ := HZ0.out
    have f0 := hf 0 (by omega)
    have f1 := hf 1 (by omega)
    have f2 := hf 2 (by omega)
    clear hf
    go_wp2_with fail
    refine bodyPost_ret (results_opn rfl rfl HZA.out.1.c.c0 HZA.out.1.c.c1 HZA.out.1.c.c2) rfl ?_
    exact ⟨rfl, HZA.out.2⟩
  · have hnn : ((np : Int) != (n : Int)) = true := by simp; omega
    obtain ⟨⟨x0, x1, x2⟩, hf⟩ := HZ0.out
    have f0 := hf 0 (by omega)
    have f1 := hf 1 (by omega)
    have f2 := hf 2 (by omega)
    clear hf
    go_wp2_with fail
    refine bodyPost_ret (results_opn rfl rfl HZA.out.1.c.c0 HZA.out.1.c.c1 HZA.out.1.c.c2) rfl ?_
    exact ⟨rfl, HZA.out.2⟩

end Go.Proofs.YtnnjajmkfgnhcaaDoor

/-
  A contract of tallyref's In, for every input; nothing is written.
-/
namespace Go.Proofs.YtnnjajmkfgnhcaaDoor
open Go.RowKit
set_option linter.unusedVariables false

set_option maxHeartbeats 400000 in
theorem rin_any (n a b : Int) (w : World) : Calls Tryd.prog 32 #[.int .i64 n, .int .i64 a, .int .i64 b] w fun e w' => e = .returned (.bool (decide (a ≤ n) && decide (n ≤ b))) ∧ w' = w := by
  by_cases h1 : a ≤ n
  · by_cases h2 : n ≤ b
    · go_enter Tryd.func32, Tryd.ntmps32
      go_wp2
      go_ret
      exact ⟨by simp [h1, h2], rfl⟩
    · go_enter Tryd.func32, Tryd.ntmps32
      go_wp2
      go_ret
      exact ⟨by simp [h2], rfl⟩
  · go_enter Tryd.func32, Tryd.ntmps32
    go_wp2
    go_ret
    exact ⟨by simp; omega, rfl⟩

end Go.Proofs.YtnnjajmkfgnhcaaDoor

/-
  A contract of tallyref's Places, for every list of places; nothing is written.
-/
namespace Go.Proofs.YtnnjajmkfgnhcaaDoor
open Go.RowKit
set_option linter.unusedVariables false
attribute [local go_sem ↓] Go.wp_at_zero Go.wp_at_succ

theorem shl_q8 {k : Nat} (hk : k ≤ 8) : IntKind.i64.wrap ((2 : Int) ^ k) = ((2 ^ k : Nat) : Int) := by
  have h : 2 ^ k ≤ 256 := pow_c8 hk
  rw [show ((2 : Int) ^ k) = ((2 ^ k : Nat) : Int) from by simp]
  generalize 2 ^ k = M at h
  exact IntWalk.i64_in _ (by omega)
theorem hfQ_zero (n : Nat) : hfQ n 0 = 2 ^ (n - 1) := by unfold hfQ; rfl
theorem ok_next {m k : Nat} {p : Nat → Int} {H : Int} {r b : Bool} (h : r = true ↔ m ≤ 32 ∧ ∀ j, j < k → 0 ≤ p j ∧ p j < H) (hb : b = true ↔ 0 ≤ p k ∧ p k < H) : ((r && b) = true ↔ m ≤ 32 ∧ ∀ j, j < k + 1 → 0 ≤ p j ∧ p j < H) := by
  rw [Bool.and_eq_true, h, hb]
  constructor
  · rintro ⟨⟨h1, h2⟩, h3⟩
    refine ⟨h1, fun j hj => ?_⟩
    by_cases e : j = k
    · rw [e]; exact h3
    · exact h2 j (by omega)
  · rintro ⟨h1, h2⟩
    exact ⟨⟨h1, fun j hj => h2 j (by omega)⟩, h2 k (by omega)⟩
set_option maxHeartbeats 4000000 in
set_option maxRecDepth 100000 in
theorem rplaces_any (m cap n : Nat) (ao : Option Addr) (p : Nat → Int) (w : World) (hn1 : 1 ≤ n) (hn : n ≤ 8) (hm : m ≤ maxLen) (hr : IRowP w ao m p) :
    Calls Tryd.prog 9 #[.slice ao m cap, .int .i64 (n : Int)] w fun e w' => ∃ r : Bool, e = .returned (.bool r) ∧ (r = true ↔ plOk m n p) ∧ Below w.heap.size w w' := by
  have hm2 : m ≤ 9223372036854775807 := hm
  have HR := hid hr
  obtain ⟨q, hq⟩ : ∃ q, n - 1 = q := ⟨_, rfl⟩
  obtain ⟨H, hH⟩ : ∃ H, hfQ n 0 = H := ⟨_, rfl⟩
  have HPL : Hid (∀ r : Bool, (r = true ↔ m ≤ 32 ∧ ∀ j, j < m → 0 ≤ p j ∧ p j < (H : Int)) → (r = true ↔ plOk m n p)) := hid (fun r h => by unfold plOk; rw [hH]; exact h)
  have hH1 : 1 ≤ H := by rw [← hH]; exact hfQ_pos n 0
  have hH2 : H ≤ 256 := by rw [← hH]; exact hfQ_le hn
  have HS1 : Hid (wrap64 ((2 : Int) ^ q) = (H : Int)) := hid (by rw [← hH, hfQ_zero, hq]; exact shl_c8 (by omega))
  have HS2 : Hid (IntKind.i64.wrap ((2 : Int) ^ q) = (H : Int)) := hid (by rw [← hH, hfQ_zero, hq]; exact shl_q8 (by omega))
  have hq2 : (n : Int) - 1 = (q : Int) := by omega
  have q8 : q ≤ 8 := by omega
  have HI := hid (fun (x : Int) W => rin_any x 0 ((H : Int) - 1) W)
  obtain ⟨r0, hr0⟩ : ∃ r0 : Bool, decide ((m : Int) ≤ 32) = r0 := ⟨_, rfl⟩
  have HR0 : Hid (r0 = true ↔ m ≤ 32 ∧ ∀ j, j < 0 → 0 ≤ p j ∧ p j < (H : Int)) := hid (by rw [← hr0, decide_eq_true_iff]; exact ⟨fun h => ⟨by omega, fun j hj => absurd hj (by omega)⟩, fun h => by have := h.1; omega⟩)
  clear hr hH hq
  go_enter Tryd.func9, Tryd.ntmps9
  go_wp2_with fail
  go_loopg [5, 6] m (fun g x5 x6 wr => ∃ (k : Nat) (r : Bool), k ≤ m ∧ g = m - k ∧ x5 = .bool r ∧ x6 = .int .i64 (k : Int) ∧ Hid (r = true ↔ m ≤ 32 ∧ ∀ j, j < k → 0 ≤ p j ∧ p j < (H : Int)) ∧ Hid (Below w.heap.size w wr))
  case atStart => exact ⟨0, r0, by omega, rfl, rfl, rfl, HR0, hid (Below.refl _ _)⟩
  case round =>
    clear HR0 hr0
    obtain ⟨k, r, hk, rfl, rfl, rfl, HK, HB⟩ := hrel
    by_cases hlt : k < m
    · obtain ⟨b, off, rfl, hrow⟩ := (HR.out.kept HB.out) (by omega)
      have c1 := hrow k hlt
      obtain ⟨x, hx⟩ : ∃ x, p k = x := ⟨_, rfl⟩
      rw [hx] at c1
      have HX := hid hx
      clear hrow hx
      have k0 : (0 : Int) ≤ (k : Int) := by omega
      have k1 : (k : Int) < (m : Int) := by omega
      cases r with
      | false =>
        have HK2 : Hid (false = true ↔ m ≤ 32 ∧ ∀ j, j < k + 1 → 0 ≤ p j ∧ p j < (H : Int)) := hid ⟨fun h => (by cases h), fun h => HK.out.2 ⟨h.1, fun j hj => h.2 j (by omega)⟩⟩
        clear HK
        go_wp2_with fail
        go_quiet (fail)
        go_wp2_with fail
        go_roundg (m - (k + 1))
        case measure => go_light; omega
        case rel => exact ⟨k + 1, false, by omega, rfl, rfl, by go_num, HK2, hid (Below.drewN' HB.out _)⟩
      | true =>
        have hs1 := HS1.out
        have hs2 := HS2.out
        obtain ⟨b2, hb2⟩ : ∃ b2, (decide ((0 : Int) ≤ x) && decide (x ≤ (H : Int) - 1)) = b2 := ⟨_, rfl⟩
        have HI2 : Hid (∀ W, Calls Tryd.prog 32 #[.int .i64 x, .int .i64 0, .int .i64 ((H : Int) - 1)] W fun e w' => e = .returned (.bool b2) ∧ w' = W) := hid (fun W => by rw [← hb2]; exact HI.out x W)
        have HK2 : Hid (b2 = true ↔ m ≤ 32 ∧ ∀ j, j < k + 1 → 0 ≤ p j ∧ p j < (H : Int)) := hid (by
          have := ok_next (b := b2) HK.out (by rw [HX.out, ← hb2]; simp; omega)
          rwa [Bool.true_and] at this)
        clear HK hb2
        go_wp2_with fail
        go_quiet (first | (go_at_call 32; exact Calls.quiet_of_same (HI2.out _)))
        clear hs1 hs2
        go_wp2_with fail
        go_roundg (m - (k + 1))
        case measure => go_light; omega
        case rel => exact ⟨k + 1, b2, by omega, rfl, rfl, by go_num, HK2, hid (Below.drewN' HB.out _)⟩
    · have e : k = m := by omega
      subst e
      go_wp2_with fail
      go_ret
      exact ⟨r, rfl, HPL.out r HK.out, HB.out⟩

end Go.Proofs.YtnnjajmkfgnhcaaDoor

/-
  The law OpenSays, for every input: it answers true and writes nothing that was there.
-/
namespace Go.Proofs.YtnnjajmkfgnhcaaDoor
open Go.RowKit
set_option linter.unusedVariables false
attribute [local go_sem ↓] Go.wp_at_zero Go.wp_at_succ

/-- Two empty openings are the same. -/
theorem same_none (w : World) : Calls Tryd.prog 12 #[.agg #[.slice none 0 0, .int .u64 0, .slice none 0 0], .agg #[.slice none 0 0, .int .u64 0, .slice none 0 0]] w fun e w' => e = .returned (.bool true) ∧ Below w.heap.size w w' :=
  sameopening_ok none none none none 0 0 0 0 0 0 0 (fun _ => 0) (rightO (fun _ => 0) (fun _ => 0) 1 0 (fun _ => 0)) ⟨fun _ => none, fun _ => none, fun _ => 0, fun _ => 0, fun _ _ _ => none, fun _ _ _ => 0⟩ ⟨fun _ => none, fun _ => none, fun _ => 0, fun _ => 0, fun _ _ _ => none, fun _ _ _ => 0⟩ w (by omega) rfl (by omega) (rightO_nums _ _ _ _ _) (fun j hj => absurd hj (by omega)) (fun h => absurd h (by omega)) (fun h => absurd h (by omega)) (fun h => absurd h (by show ¬ (0 < 0); omega)) (fun h => absurd h (by show ¬ (0 < 0); omega))

set_option maxHeartbeats 2000000 in
set_option maxRecDepth 100000 in
theorem opsays_big (ao ap apl : Option Addr) (n N ca lp cp m cpl : Nat) (w : World) (h5 : 5 ≤ n) (h8 : n ≤ 8) (hN : N = 2 ^ n) :
    Calls Tryd.prog 3 #[.slice ao N ca, .slice ap lp cp, .slice apl m cpl] w fun e w' => e = .returned (.bool true) ∧ Below w.heap.size w w' := by
  have HV := hid (fun W => rvars_ok ao n N ca W h8 hN)
  clear hN
  go_enter Tryd.func3, Tryd.ntmps3
  go_wp2_with fail
  refine (HV.out _).mono ?_
  rintro e w' ⟨rfl, hw⟩
  obtain rfl := hw.symm
  go_wp2_with fail
  go_ret
  exact ⟨rfl, Below.refl _ _⟩

set_option maxHeartbeats 4000000 in
set_option maxRecDepth 100000 in
theorem opsays_form (ao ap apl : Option Addr) (v : Int) (N ca lp cp m cpl : Nat) (w : World) (v0 : -1 ≤ v) (v1 : v < 1) (hv : ∀ W, Calls Tryd.prog 8 #[.slice ao N ca] W fun e w' => e = .returned (.int .i64 v) ∧ w' = W) (ho : ∀ W, Below w.heap.size w W → Calls Tryd.prog 11 #[.slice ao N ca, .slice ap lp cp, .slice apl m cpl] W fun e w' => openNo W 4 e w') :
    Calls Tryd.prog 3 #[.slice ao N ca, .slice ap lp cp, .slice apl m cpl] w fun e w' => e = .returned (.bool true) ∧ Below w.heap.size w w' := by
  have HV := hid hv
  have HO := hid ho
  have HB0 := hid (bel_new w (.cells #[.slice none 0 0, .int .u64 0, .slice none 0 0] 29))
  have HX := hid (Bx3.new w (.slice none 0 0) (.int .u64 0) (.slice none 0 0) 29)
  clear hv ho
  go_enter Tryd.func3, Tryd.ntmps3
  go_wp2_with fail
  refine (HV.out _).mono ?_
  rintro e w' ⟨rfl, hw⟩
  obtain rfl := hw.symm
  go_wp2_with fail
  obtain ⟨X, hX⟩ : ∃ X, w.heap.size = X := ⟨_, rfl⟩
  rw [hX] at HX ⊢
  clear hX
  generalize w.alloc (.cells #[.slice none 0 0, .int .u64 0, .slice none 0 0] 29) = W0 at HX HB0 ⊢
  refine (HO.out _ HB0.out).mono ?_
  rintro e w1 ⟨rfl, hb⟩
  have HB1 := hid (HB0.out.trans (hb.mono HB0.out.size))
  obtain ⟨x0, x1, x2⟩ := HX.out.kept hb
  have y0 := fun o => nkeep (nbel w1 o) x0
  have y1 := fun o => nkeep (nbel w1 o) x1
  have y2 := fun o => nkeep (nbel w1 o) x2
  have HB2 := hid (fun o => HB1.out.trans ((bel_new w1 o).mono HB1.out.size))
  clear hb
  go_wp2_with fail
  refine (same_none _).mono ?_
  rintro e w3 ⟨rfl, hb⟩
  have HB3 := hid ((HB2.out _).trans (hb.mono (HB2.out _).size))
  clear hb x0 x1 x2 y0 y1 y2
  go_wp2_with fail
  go_ret
  exact ⟨rfl, HB3.out⟩

set_option maxHeartbeats 4000000 in
set_option maxRecDepth 100000 in
theorem opsays_arg (ao ap apl : Option Addr) (n N ca lp cp m cpl : Nat) (p : Nat → Int) (w : World) (n1 : 1 ≤ n) (n4 : n ≤ 4) (hN : N = 2 ^ n) (ht : Tab w) (hm : m ≤ maxLen) (hnp : lp ≤ maxLen) (hi : IRowP w apl m p) (hbad : lp ≠ n ∨ ¬ plOk m n p) :
    Calls Tryd.prog 3 #[.slice ao N ca, .slice ap lp cp, .slice apl m cpl] w fun e w' => e = .returned (.bool true) ∧ Below w.heap.size w w' := by
  have HV := hid (fun W => rvars_ok ao n N ca W (by omega) hN)
  have HO := hid (fun W (h : Below w.heap.size w W) => open_arg n N ca lp cp m cpl ao ap apl p W n1 (by omega) hN (ht.kept h ht.1) hm hnp (hi.kept h) hbad)
  have HPL := hid (fun W (h : Below w.heap.size w W) => rplaces_any m cpl n apl p W n1 (by omega) hm (hi.kept h))
  have HB0 := hid (bel_new w (.cells #[.slice none 0 0, .int .u64 0, .slice none 0 0] 29))
  have HX := hid (Bx3.new w (.slice none 0 0) (.int .u64 0) (.slice none 0 0) 29)
  have np63 : (lp : Int) ≤ 9223372036854775807 := by have : maxLen ≤ 9223372036854775807 := by decide
                                                     omega
  have HBD := hid hbad
  clear hN ht hm hnp hi hbad
  go_enter Tryd.func3, Tryd.ntmps3
  go_wp2_with fail
  refine (HV.out _).mono ?_
  rintro e w' ⟨rfl, hw⟩
  obtain rfl := hw.symm
  by_cases hnn : lp = n
  · subst hnn
    have hnp : ¬ plOk m lp p := HBD.out.resolve_left (fun h => h rfl)
    have hnn : ((lp : Int) != (lp : Int)) = false := by simp
    go_wp2_with fail
    obtain ⟨X, hX⟩ : ∃ X, w.heap.size = X := ⟨_, rfl⟩
    rw [hX] at HX ⊢
    clear hX
    generalize w.alloc (.cells #[.slice none 0 0, .int .u64 0, .slice none 0 0] 29) = W0 at HX HB0 ⊢
    refine (HPL.out _ HB0.out).mono ?_
    rintro e w5 ⟨r, rfl, hrr, hb⟩
    have hr2 : r = false := by
      cases r
      · rfl
      · exact absurd (hrr.1 rfl) hnp
    subst hr2
    have HX5 := hid (HX.out.kept hb)
    have HB5 := hid (HB0.out.trans (hb.mono HB0.out.size))
    clear hrr hnp hb
    go_wp2_with fail
    refine (HO.out _ HB5.out).mono ?_
    rintro e w1 ⟨rfl, hb⟩
    have HB1 := hid (HB5.out.trans (hb.mono HB5.out.size))
    obtain ⟨x0, x1, x2⟩ := HX5.out.kept hb
    have y0 := fun o => nkeep (nbel w1 o) x0
    have y1 := fun o => nkeep (nbel w1 o) x1
    have y2 := fun o => nkeep (nbel w1 o) x2
    have HB2 := hid (fun o => HB1.out.trans ((bel_new w1 o).mono HB1.out.size))
    clear hb
    go_wp2_with fail
    refine (same_none _).mono ?_
    rintro e w3 ⟨rfl, hb⟩
    have HB3 := hid ((HB2.out _).trans (hb.mono (HB2.out _).size))
    clear hb x0 x1 x2 y0 y1 y2
    go_wp2_with fail
    go_ret
    exact ⟨rfl, HB3.out⟩
  · have hnn : ((lp : Int) != (n : Int)) = true := by simp; omega
    go_wp2_with fail
    obtain ⟨X, hX⟩ : ∃ X, w.heap.size = X := ⟨_, rfl⟩
    rw [hX] at HX ⊢
    clear hX
    generalize w.alloc (.cells #[.slice none 0 0, .int .u64 0, .slice none 0 0] 29) = W0 at HX HB0 ⊢
    refine (HO.out _ HB0.out).mono ?_
    rintro e w1 ⟨rfl, hb⟩
    have HB1 := hid (HB0.out.trans (hb.mono HB0.out.size))
    obtain ⟨x0, x1, x2⟩ := HX.out.kept hb
    have y0 := fun o => nkeep (nbel w1 o) x0
    have y1 := fun o => nkeep (nbel w1 o) x1
    have y2 := fun o => nkeep (nbel w1 o) x2
    have HB2 := hid (fun o => HB1.out.trans ((bel_new w1 o).mono HB1.out.size))
    clear hb
    go_wp2_with fail
    refine (same_none _).mono ?_
    rintro e w3 ⟨rfl, hb⟩
    have HB3 := hid ((HB2.out _).trans (hb.mono (HB2.out _).size))
    clear hb x0 x1 x2 y0 y1 y2
    go_wp2_with fail
    go_ret
    exact ⟨rfl, HB3.out⟩

/-- What Opened told, behind the store into the box X that was there ahead of it. -/
theorem want_put {w W0 w1 : World} {X n m : Nat} {f g : Nat → Int} {pl : Nat → Nat} {e : Ending} (hX : w.heap.size ≤ X) (hl : X < W0.heap.size) (hb0 : Below w.heap.size w W0) (h : openedOut f g n m pl W0 e w1) :
    ∃ (ar al : Option Addr) (cr cl : Nat) (mm : OM), e = .returned (.agg #[.slice ar n cr, .int .u64 (fdQ f g n n 0), .slice al m cl]) ∧ Below W0.heap.size W0 w1 ∧ ∀ x0 x1 x2, PRow (((w1.setCell ⟨X, 0, none⟩ x0).setCell ⟨X, 1, none⟩ x1).setCell ⟨X, 2, none⟩ x2) ar n (oR f g n) ∧ OpRow (((w1.setCell ⟨X, 0, none⟩ x0).setCell ⟨X, 1, none⟩ x1).setCell ⟨X, 2, none⟩ x2) al (rightO f g n m pl) mm ∧ Below w.heap.size w (((w1.setCell ⟨X, 0, none⟩ x0).setCell ⟨X, 1, none⟩ x1).setCell ⟨X, 2, none⟩ x2) := by
  obtain ⟨ar, al, cr, cl, mm, he, hp, ho, ⟨ha, hal, hla⟩, hb⟩ := h
  refine ⟨ar, al, cr, cl, mm, he, hb, fun x0 x1 x2 => ?_⟩
  have hk : ∀ q, W0.heap.size ≤ q → (((w1.setCell ⟨X, 0, none⟩ x0).setCell ⟨X, 1, none⟩ x1).setCell ⟨X, 2, none⟩ x2).heap[q]? = w1.heap[q]? := fun q hq => (Below.heap_setCell _ _ _ _ (by show q ≠ X; omega)).trans ((Below.heap_setCell _ _ _ _ (by show q ≠ X; omega)).trans (Below.heap_setCell _ _ _ _ (by show q ≠ X; omega)))
  have hb1 : Below w.heap.size w w1 := hb0.trans (hb.mono hb0.size)
  exact ⟨prow_of hp (fun a e => hk _ (ha a e)), ho.keepS (S := fun q => W0.heap.size ≤ q) hal (fun j hj => hla j hj) hk, hb1.trans ((but_set3 w1 X x0 x1 x2).below (fun k hk => by rw [show k = X from hk]; exact hX) hb1.size)⟩

set_option maxHeartbeats 4000000 in
set_option maxRecDepth 100000 in
theorem opsays_good (ap apl : Option Addr) (b off n N ca cp m cpl : Nat) (f g : Nat → Int) (pl : Nat → Nat) (w : World) (n1 : 1 ≤ n) (n4 : n ≤ 4) (hN : N = 2 ^ n) (hcap : N ≤ ca) (ht : Tab w) (hr : Row w b off N f) (hv : Nums f) (hp : PRow w ap n g) (hg : Nums g) (hi : IRowP w apl m fun j => (pl j : Int)) (hpl : plOk m n fun j => (pl j : Int)) :
    Calls Tryd.prog 3 #[.slice (some ⟨b, off, none⟩) N ca, .slice ap n cp, .slice apl m cpl] w fun e w' => e = .returned (.bool true) ∧ Below w.heap.size w w' := by
  have m32 : m ≤ 32 := hpl.1
  have hN1 : 0 < N := by rw [hN]; exact Nat.two_pow_pos n
  have HV := hid (fun W => rvars_ok (some ⟨b, off, none⟩) n N ca W (by omega) hN)
  have HPL := hid (fun W (h : Below w.heap.size w W) => rplaces_any m cpl n apl (fun j => (pl j : Int)) W n1 (by omega) (by unfold maxLen; omega) (hi.kept h))
  have HWD := hid (fun W (h : Below w.heap.size w W) => ropened_any n b off ca cp m cpl ap apl f g pl W n1 (by omega) (by rw [← hN]; exact hcap) (by rw [← hN]; exact hr.kept h (hr.lt hN1)) hv (hp.kept h) hg (hi.kept h) hpl N hN.symm)
  have HO := hid (fun W (h : Below w.heap.size w W) => open_ok n N b off ca cp m cpl ap apl f g pl W n1 (by omega) hN (ht.kept h ht.1) (hr.kept h (hr.lt hN1)) hv (hp.kept h) hg (hi.kept h) hpl)
  have HSO := hid (fun (ar ar2 al al2 : Option Addr) (cr cr2 cl cl2 : Nat) (m1 m2 : OM) (W : World) (p0 : PRow W ar n (oR f g n)) (p1 : PRow W ar2 n (oR f g n)) (o0 : OpRow W al (rightO f g n m pl) m1) (o1 : OpRow W al2 (rightO f g n m pl) m2) => sameopening_ok ar ar2 al al2 n cr cr2 m cl cl2 (fdQ f g n n 0) (oR f g n) (rightO f g n m pl) m1 m2 W (by omega) rfl (by omega) (rightO_nums _ _ _ _ _) (fun j _ => ⟨by show n ≤ 1000; omega, by show n ≤ 1000; omega, fun k _ => ⟨by show n - k ≤ 100000; omega, by show n - k ≤ 100000; omega⟩⟩) p0 p1 o0 o1)
  have HB0 := hid (bel_new w (.cells #[.slice none 0 0, .int .u64 0, .slice none 0 0] 29))
  have HX := hid (Zero3.new w (.slice none 0 0) (.int .u64 0) (.slice none 0 0) 29)
  have HPO := hid hpl
  have hnn : ((n : Int) != (n : Int)) = false := by simp
  clear hN ht hi hpl hr hv hp hg hcap hN1
  obtain ⟨vv, hvv⟩ : ∃ x, fdQ f g n n 0 = x := ⟨_, rfl⟩
  have HVV := hid hvv
  rw [hvv] at HO HSO
  clear hvv
  go_enter Tryd.func3, Tryd.ntmps3
  go_wp2_with fail
  refine (HV.out _).mono ?_
  rintro e w' ⟨rfl, hw⟩
  obtain rfl := hw.symm
  go_wp2_with fail
  obtain ⟨X, hX⟩ : ∃ X, w.heap.size = X := ⟨_, rfl⟩
  have HXX := hid hX
  rw [hX] at HX ⊢
  clear hX
  generalize w.alloc (.cells #[.slice none 0 0, .int .u64 0, .slice none 0 0] 29) = W0 at HX HB0 ⊢
  refine (HPL.out _ HB0.out).mono ?_
  rintro e w5 ⟨r, rfl, hrr, hb⟩
  have hr2 : r = true := hrr.2 HPO.out
  subst hr2
  have HX5 := hid (HX.out.kept hb)
  have HB5 := hid (HB0.out.trans (hb.mono HB0.out.size))
  clear hrr hb HX HB0
  go_wp2_with fail
  refine (HWD.out _ HB5.out).mono ?_
  intro e w6 ho6
  obtain ⟨ar, al, cr, cl, mm, rfl, hb6, hput⟩ := want_put (X := X) (by rw [HXX.out]; exact Nat.le_refl _) (World.block_lt_of_cell? w5 _ HX5.out.c.c0) HB5.out ho6
  rw [HVV.out]
  have HX6 := hid (HX5.out.kept hb6)
  have HP6 := hid hput
  obtain ⟨⟨x0, x1, x2⟩, xf⟩ := HX6.out
  have f0 := xf 0 (by omega)
  have f1 := xf 1 (by omega)
  have f2 := xf 2 (by omega)
  have HS6 := hid (fun p q r => setB3 (p := p) (q := q) (r := r) x0 x1 x2)
  clear ho6 hb6 hput xf
  go_wp2_with fail
  have HP7 := hid (HP6.out (.slice ar n cr) (.int .u64 vv) (.slice al m cl))
  have HS7 := hid (HS6.out (.slice ar n cr) (.int .u64 vv) (.slice al m cl))
  generalize ((w6.setCell ⟨X, 0, none⟩ (.slice ar n cr)).setCell ⟨X, 1, none⟩ (.int .u64 vv)).setCell ⟨X, 2, none⟩ (.slice al m cl) = W7 at HP7 HS7 ⊢
  clear HP6 HS6 x0 x1 x2 f0 f1 f2
  refine (HO.out _ HP7.out.2.2).mono ?_
  rintro e w8 ⟨rb, lb, m8, rfl, hrow, hop, hb⟩
  have HB8 := hid (HP7.out.2.2.trans (hb.mono HP7.out.2.2.size))
  obtain ⟨x0, x1, x2⟩ := HS7.out.kept hb
  have y0 := fun o => nkeep (nbel w8 o) x0
  have y1 := fun o => nkeep (nbel w8 o) x1
  have y2 := fun o => nkeep (nbel w8 o) x2
  have HB9 := hid (fun o => HB8.out.trans ((bel_new w8 o).mono HB8.out.size))
  have HSA := hid (fun o (W : World) (e : w8.alloc o = W) => (by subst e; exact HSO.out (some ⟨rb, 0, none⟩) ar (some ⟨lb, 0, none⟩) al n cr m cl m8 mm (w8.alloc o) (PRow.of (hrow.kept (bel_new w8 o) (hrow.lt (by omega)))) ((HP7.out.1.kept hb).kept (bel_new w8 o)) (hop.kept (bel_new w8 o)) ((HP7.out.2.1.kept hb).kept (bel_new w8 o)) : Calls Tryd.prog 12 #[.agg #[.slice (some ⟨rb, 0, none⟩) n n, .int .u64 vv, .slice (some ⟨lb, 0, none⟩) m m], .agg #[.slice ar n cr, .int .u64 vv, .slice al m cl]] W fun e w' => e = .returned (.bool true) ∧ Below W.heap.size W w'))
  clear hb hrow hop
  go_wp2_with fail
  refine (HSA.out _ _ rfl).mono ?_
  rintro e w3 ⟨rfl, hb⟩
  have HB3 := hid ((HB9.out _).trans (hb.mono (HB9.out _).size))
  clear hb x0 x1 x2 y0 y1 y2
  go_wp2_with fail
  go_ret
  exact ⟨rfl, HB3.out⟩

theorem opsays_any (ao ap apl : Option Addr) (N ca lp cp m cpl : Nat) (f g p : Nat → Int) (w : World) (ht : Tab w) (hp : PRow w ao N f) (hf : Nums f) (hq : PRow w ap lp g) (hg : Nums g) (hi : IRowP w apl m p) (hcap : N ≤ ca) (hN : N ≤ maxLen) (hlp : lp ≤ maxLen) (hm : m ≤ maxLen) :
    Calls Tryd.prog 3 #[.slice ao N ca, .slice ap lp cp, .slice apl m cpl] w fun e w' => e = .returned (.bool true) ∧ Below w.heap.size w w' := by
  by_cases h : ∃ n, n ≤ 8 ∧ N = 2 ^ n
  · obtain ⟨n, h8, hn⟩ := h
    by_cases h5 : 5 ≤ n
    · exact opsays_big ao ap apl n N ca lp cp m cpl w h5 h8 hn
    by_cases h0 : n = 0
    · subst h0
      have e : N = 1 := hn
      subst e
      exact opsays_form ao ap apl 0 1 ca lp cp m cpl w (by omega) (by omega) (fun W => rvars_ok ao 0 1 ca W (by omega) rfl) (fun W hb => open_none ao ap apl ca lp cp m cpl W (ht.kept hb ht.1))
    by_cases hl : lp = n
    · by_cases hpl : plOk m n p
      · subst hl
        obtain ⟨b, off, rfl, hr⟩ := hp (by rw [hn]; exact Nat.two_pow_pos _)
        have hpp : ∀ j, j < m → p j = ((p j).toNat : Int) := fun j hj => by have := (hpl.2 j hj).1; omega
        refine opsays_good ap apl b off lp N ca cp m cpl f g (fun j => (p j).toNat) w (by omega) (by omega) hn hcap ht hr hf hq hg ?_ ?_
        · intro h0
          obtain ⟨b2, o2, e2, h2⟩ := hi h0
          exact ⟨b2, o2, e2, fun j hj => by rw [h2 j hj]; exact congrArg some (congrArg (Value.int .i64) (hpp j hj))⟩
        · exact ⟨hpl.1, fun j hj => by dsimp only; rw [← hpp j hj]; exact hpl.2 j hj⟩
      · exact opsays_arg ao ap apl n N ca lp cp m cpl p w (by omega) (by omega) hn ht hm hlp hi (Or.inr hpl)
    · exact opsays_arg ao ap apl n N ca lp cp m cpl p w (by omega) (by omega) hn ht hm hlp hi (Or.inl hl)
  · have h' : ∀ n, n ≤ 8 → N ≠ 2 ^ n := fun n h1 h2 => h ⟨n, h1, h2⟩
    exact opsays_form ao ap apl (-1) N ca lp cp m cpl w (by omega) (by omega) (fun W => rvars_bad ao N ca W h') (fun W hb => open_vars ao ap apl N ca lp cp m cpl W h' hN)

end Go.Proofs.YtnnjajmkfgnhcaaDoor
