/-
  Several texts in one: OpF, OpG, OpH, OpI, OpJ, OpQ, Rev; each opens with what it holds.
-/
import Derived.Test.YtbchbmelofojkaaGreatDoorMOpA
import Derived.Deep.RegionHeld3
import Derived.Test.YtbchbmelofojkaaGreatDoorKeep
import Derived.Test.YtbchbmelofojkaaGreatDoorRefVars
/-
  A contract of package open's folds: the table, and all that it is folded to; it makes new blocks and writes nothing that was there.
-/
namespace Go.Proofs.YtbchbmelofojkaaGreatDoor
open Go.RowKit
set_option linter.unusedVariables false
attribute [local go_sem ↓] Go.wp_at_zero Go.wp_at_succ

/-- The table, and all that it is folded to, in memory. -/
structure Fds (w : World) (ao : Option Addr) (n : Nat) (A : Nat → Option Addr) (C : Nat → Nat) (f g : Nat → Int) : Prop where
  row : LRow w ao (n + 1) A (fun k => 2 ^ (n - k)) C (fdQ f g n)
theorem Fds.kept {w w' : World} {ao : Option Addr} {n : Nat} {A : Nat → Option Addr} {C : Nat → Nat} {f g : Nat → Int} (h : Fds w ao n A C f g) (hb : Below w.heap.size w w') : Fds w' ao n A C f g := ⟨h.row.kept hb⟩
theorem Fds.at {w : World} {ao : Option Addr} {n : Nat} {A : Nat → Option Addr} {C : Nat → Nat} {f g : Nat → Int} (h : Fds w ao n A C f g) : ∃ b off, ao = some ⟨b, off, none⟩ ∧ ∀ k, k ≤ n → ∃ b2 o2, w.cell? ⟨b, off + k, none⟩ = some (.slice (some ⟨b2, o2, none⟩) (2 ^ (n - k)) (C k)) ∧ Row w b2 o2 (2 ^ (n - k)) (fdQ f g n k) := by
  obtain ⟨b, off, e, hr⟩ := h.row (by omega)
  refine ⟨b, off, e, fun k hk => ?_⟩
  obtain ⟨h1, h2⟩ := hr k (by omega)
  obtain ⟨b2, o2, e2, h3⟩ := h2 (Nat.two_pow_pos _)
  rw [e2] at h1
  exact ⟨b2, o2, h1, h3⟩

set_option maxHeartbeats 8000000 in
set_option maxRecDepth 100000 in
theorem folds_ok (n N b off cap cp : Nat) (ap : Option Addr) (f g : Nat → Int) (w : World) (hn : n ≤ 8) (hN : N = 2 ^ n) (ht : Tab w) (hr : Row w b off N f) (hv : Nums f) (hp : PRow w ap n g) (hg : Nums g) :
    Calls Tryz.prog 51 #[.slice (some ⟨b, off, none⟩) N cap, .slice ap n cp] w fun e w' => ∃ ao c A C, e = .returned (.slice ao (n + 1) c) ∧ n + 1 ≤ c ∧ Fds w' ao n A C f g ∧ Below w.heap.size w w' := by
  have hN1 : 1 ≤ N := by rw [hN]; exact Nat.one_le_two_pow
  have hN2 : N ≤ 256 := by rw [hN]; exact pow_256 hn
  obtain ⟨i1, hi1, hy0, hy1, hy2⟩ := info_parts Tryz.infoL
  have HJ := hid (And.intro hi1 (And.intro hy0 (And.intro hy1 hy2)))
  have hlt0 := hr.lt hN1
  have hb0 := bel_new w (.cells #[.slice (some ⟨b, off, none⟩) N cap] 22)
  have HO : Hid (OwnV (w.alloc (.cells #[.slice (some ⟨b, off, none⟩) N cap] 22)) w.heap.size (.slice (some ⟨w.heap.size, 0, none⟩) 1 1) 1 (fun _ => some ⟨b, off, none⟩) (fun t => 2 ^ (n - t)) (fun _ => cap) (fdQ f g n)) := hid ((OwnV.one w w.heap.size (some ⟨b, off, none⟩) N cap f (Nat.le_refl _) (fun x hx => by injection hx with hx; subst hx; exact hlt0) (PRow.of hr)).congr (fun _ _ => rfl) (fun i hi => by rw [show i = 0 from by omega, hN, Nat.sub_zero]) (fun _ _ => rfl) (fun i j hi _ => by rw [show i = 0 from by omega]; rfl))
  have HR0 : Hid (Row (w.alloc (.cells #[.slice (some ⟨b, off, none⟩) N cap] 22)) b off N (fdQ f g n 0)) := hid (hr.kept hb0 hlt0)
  have HB0 := hid hb0
  have HV := hid hv
  have HN := hid hN
  have HP := hid hp
  have HG := hid hg
  have HT := hid ht
  clear hr hv hN hi1 hy0 hy1 hy2 hp hg ht hb0 hlt0
  go_enter Tryz.func51, Tryz.ntmps51
  go_wp2_with fail
  obtain ⟨E, hE⟩ : ∃ E, w.heap.size = E := ⟨_, rfl⟩
  have HE := hid hE
  rw [hE] at HO HB0 ⊢
  clear hE
  generalize w.alloc (.cells #[.slice (some ⟨b, off, none⟩) N cap] 22) = W0 at HO HB0 HR0 ⊢
  go_loopg [0, 5, 12] n (fun q x0 x5 x12 ws => ∃ (t gb go gc m v c : Nat) (A : Nat → Option Addr) (C : Nat → Nat), t ≤ n ∧ q = n - t ∧ x0 = .slice (some ⟨gb, go, none⟩) m gc ∧ x5 = .slice (some ⟨v, 0, none⟩) (t + 1) c ∧ x12 = .int .i64 (t : Int) ∧ 1 ≤ m ∧ m ≤ 256 ∧ Hid (m = 2 ^ (n - t)) ∧ Hid (Row ws gb go m (fdQ f g n t)) ∧ Hid (OwnV ws E (.slice (some ⟨v, 0, none⟩) (t + 1) c) (t + 1) A (fun t => 2 ^ (n - t)) C (fdQ f g n)) ∧ Hid (Below E w ws))
  case atStart => exact ⟨0, b, off, cap, N, _, _, _, _, by omega, rfl, rfl, rfl, rfl, hN1, hN2, hid HN.out, HR0, HO, HB0⟩
  case round =>
    clear HO HB0 HR0
    obtain ⟨t, gb, go, gc, m, v, c, A, C, ht, rfl, rfl, rfl, rfl, hm1, hm2, HM2, HRt, HO, HB⟩ := hrel
    by_cases hlt : t < n
    · obtain ⟨h, rfl, hh1⟩ := half_of hlt HM2.out
      have hhp : h = 2 ^ (n - (t + 1)) := by have := HM2.out; rw [show n - t = (n - (t + 1)) + 1 from by omega, Nat.pow_succ] at this; omega
      have HH := hid hhp
      have hEw : Below w.heap.size w wr := by rw [HE.out]; exact HB.out
      obtain ⟨bp, op, rfl, hpr⟩ := (HP.out.kept hEw) (by omega)
      have c1 := hpr t hlt
      have bx := HG.out t
      have HFX := hid (fix_ok gb go (n - (t + 1)) h gc (fdQ f g n t) (g t) wr (by omega) hhp (HT.out.kept hEw HT.out.1) HRt.out (fdQ_nums f g n t HV.out) bx.1 bx.2)
      have hfe : fldF (fdQ f g n t) h (g t) = fdQ f g n (t + 1) := by
        funext j
        show _ = fldF (fdQ f g n t) (hfQ n t) (g t) j
        rw [hhp]; unfold hfQ
        rw [show n - 1 - t = n - (t + 1) from by omega]
      rw [hfe] at HFX
      generalize g t = x at c1 HFX
      have k0 : (0 : Int) ≤ (t : Int) := by omega
      have k1 : (t : Int) < (n : Int) := by omega
      clear hpr hhp hEw hfe bx
      go_wp2_with (first
        | (go_at_call 13; refine (HFX.out).mono ?_; rintro e w1 ⟨rfl, hm⟩; have HO1 := hid (HO.out.kept hm.below); have HB1 := hid (HB.out.trans (hm.below.mono (by have := HB.out.size; have := HE.out; omega))); have HMD := hid hm; clear hm)
        | (at_builtin; refine wpList_append_lies _ rfl _ _ 36 rfl E 22 i1 (.slice none 0 0) 1 24 Tryz.underlying36 HJ.out.1 HJ.out.2.1 HJ.out.2.2.1 HJ.out.2.2.2 rfl (by decide) _ _ _ rfl (World.ownsRow.alloc HO1.out.own _) ⟨w1.heap.size, 0, none⟩ 1 1 [.slice (some ⟨wr.heap.size, 0, none⟩) h h] rfl rfl ?qc2 ?qc3 ?qc4 ?qc5 ?qc6 ?qc7 (w1.heap.size + 1) ?qc8 ?_))
      case qc2 =>
        intro j u hj
        match j, hj with
        | 0, hj => simp at hj; subst hj; simp [Addr.add]
      case qc3 => intro u hu; simp at hu; subst hu; rfl
      case qc4 => omega
      case qc5 => unfold maxLen; omega
      case qc6 => omega
      case qc7 => have := HB1.out.size; have := HE.out; simp; omega
      case qc8 => simp
      intro g2 c2 w6 hown2 hgrow2 hat2 hlt3
      have hbn := bel_new w1 (.cells #[.slice (some ⟨wr.heap.size, 0, none⟩) h h] 22)
      have hwlt : wr.heap.size < w1.heap.size := HMD.out.row.lt hh1
      have hrow := HMD.out.row.kept hbn hwlt
      have hfar : ∀ a, some (⟨wr.heap.size, 0, none⟩ : Addr) = some a → (Value.slice (some ⟨v, 0, none⟩) (t + 1) c).ownBlock ≠ some a.block := fun a ha => by injection ha with ha; subst ha; exact HO.out.far (Nat.le_refl _)
      have hnext := (HO1.out.kept hbn).next hown2 hgrow2 (by simpa using hat2) (fun a ha => by injection ha with ha; subst ha; simp; omega) hfar (PRow.of hrow)
      have HR6 : Hid (Row w6 wr.heap.size 0 h (fdQ f g n (t + 1))) := hid (fun j hj => (World.cell?_of_block (hgrow2.block wr.heap.size (by simp; omega) (fun e => HO.out.far (Nat.le_refl _) e.symm))).trans (hrow j hj))
      have HO6 : Hid (OwnV w6 E (.slice (some ⟨g2, 0, none⟩) (t + 1 + 1) c2) (t + 1 + 1) (putO A (t + 1) (some ⟨wr.heap.size, 0, none⟩)) (fun t => 2 ^ (n - t)) (putA C (t + 1) h) (fdQ f g n)) := hid (hnext.congr (fun _ _ => rfl) (fun i hi => by unfold putA; by_cases e : i = t + 1 <;> simp [e, HH.out]) (fun _ _ => rfl) (fun i j _ _ => by unfold putF; by_cases e : i = t + 1 <;> simp [e]))
      have HB6 : Hid (Below E w w6) := hid ((HB1.out.alloc (by have := HB1.out.size; have := HE.out; omega) _).grown hgrow2 (by have := HB1.out.size; have := HE.out; simp; omega) (by intro t ht; exact (World.ownsRow.lt HO1.out.own t ht).1))
      clear hown2 hgrow2 hat2 hlt3 hbn hrow hfar hnext
      go_wp2_with fail
      go_roundg (n - (t + 1))
      case measure => go_light; omega
      case rel => exact ⟨t + 1, wr.heap.size, 0, h, h, _, _, _, _, by omega, rfl, rfl, rfl, by go_num, hh1, by omega, HH, HR6, HO6, HB6⟩
    · have e : t = n := by omega
      subst e
      go_wp2_with fail
      go_ret
      obtain ⟨ao, cc, e, hc, hl⟩ := HO.out.is
      exact ⟨ao, cc, A, C, by rw [e]; rfl, hc, ⟨hl⟩, by rw [HE.out]; exact HB.out⟩

end Go.Proofs.YtbchbmelofojkaaGreatDoor

/-
  Looks in memory, while they are told: what lies there, what a store leaves, what stays; no program in it.
-/
namespace Go.Proofs.YtbchbmelofojkaaGreatDoor
open Go.RowKit
set_option linter.unusedVariables false

/-- w' is w, with new blocks, but for the blocks of S. -/
structure ButS (S : Nat → Prop) (w w' : World) : Prop where
  os : w'.os = w.os
  tape : w'.tape = w.tape
  output : w'.output = w.output
  size : w.heap.size ≤ w'.heap.size
  block : ∀ k, k < w.heap.size → ¬ S k → w'.heap[k]? = w.heap[k]?
theorem ButS.refl (S : Nat → Prop) (w : World) : ButS S w w := ⟨rfl, rfl, rfl, Nat.le_refl _, fun _ _ _ => rfl⟩
theorem ButS.of {S : Nat → Prop} {w w' : World} (h : Below w.heap.size w w') : ButS S w w' := ⟨h.os, h.tape, h.output, h.size, fun k hk _ => h.block k hk⟩
theorem ButS.trans {S : Nat → Prop} {w w' w'' : World} (h : ButS S w w') (g : ButS S w' w'') : ButS S w w'' :=
  ⟨g.os.trans h.os, g.tape.trans h.tape, g.output.trans h.output, Nat.le_trans h.size g.size, fun k hk hn => (g.block k (Nat.lt_of_lt_of_le hk h.size) hn).trans (h.block k hk hn)⟩
theorem ButS.drew {S : Nat → Prop} {w w' : World} (h : ButS S w w') : ButS S w w'.drew := ⟨h.os, h.tape, h.output, h.size, h.block⟩
theorem ButS.drewN {S : Nat → Prop} {w w' : World} (h : ButS S w w') (n : Nat) : ButS S w (w'.drewN n) := ⟨h.os, h.tape, h.output, h.size, h.block⟩
theorem ButS.set {S : Nat → Prop} {w w' : World} (h : ButS S w w') {b q : Nat} (hb : S b) (u : Value) : ButS S w (w'.setCell ⟨b, q, none⟩ u) :=
  ⟨h.os, h.tape, h.output, by rw [World.size_setCell]; exact h.size, fun k hk hn => by
    rw [Below.heap_setCell _ _ _ _ (fun e => hn (by rw [e]; exact hb))]; exact h.block k hk hn⟩
theorem ButS.below {S : Nat → Prop} {w w' : World} {E : Nat} (h : ButS S w w') (hS : ∀ k, S k → E ≤ k) (hE : E ≤ w.heap.size) : Below E w w' :=
  ⟨h.os, h.tape, h.output, h.size, fun k hk => h.block k (by omega) (fun hs => by have := hS k hs; omega)⟩
theorem ButS.cell {S : Nat → Prop} {w w' : World} (h : ButS S w w') {a : Addr} {v : Value} (hc : w.cell? a = some v) (hn : ¬ S a.block) : w'.cell? a = some v :=
  (World.cell?_of_block (h.block _ (World.block_lt_of_cell? w _ hc) hn)).trans hc
theorem keepD {W W' : World} (hb : Below W.heap.size W W') {a : Addr} {v : Value} (h : W.cell? a = some v) : W'.cell? a = some v := (hb.cell (World.block_lt_of_cell? W _ h)).trans h
/-- The looks: m of them, in block LB; look k's pairs in block pb k, its paths in block tb k, n of both. -/
structure LkM (W : World) (E LB n m : Nat) (pb tb : Nat → Nat) (pv : Nat → Nat → Nat → Int) (tv : Nat → Nat → Nat → Value) : Prop where
  cl : ∀ k, k < m → W.cell? ⟨LB, 2 * k, none⟩ = some (.slice (some ⟨pb k, 0, none⟩) n n) ∧ W.cell? ⟨LB, 2 * k + 1, none⟩ = some (.slice (some ⟨tb k, 0, none⟩) n n)
  pc : ∀ k i e, k < m → i < n → e < 2 → W.cell? ⟨pb k, 2 * i + e, none⟩ = some (.int .u64 (pv k i e)) ∧ W.frozen? ⟨pb k, 2 * i + e, none⟩ = false
  tc : ∀ k i e, k < m → i < n → e < 2 → W.cell? ⟨tb k, 2 * i + e, none⟩ = some (tv k i e) ∧ W.frozen? ⟨tb k, 2 * i + e, none⟩ = false
  lo : E ≤ LB ∧ ∀ k, k < m → E ≤ pb k ∧ E ≤ tb k
  lt : ∀ k, k < m → pb k < W.heap.size ∧ tb k < W.heap.size
  ne : ∀ k, k < m → pb k ≠ LB ∧ tb k ≠ LB
  pt : ∀ k j, k < m → j < m → pb k ≠ tb j
  pp : ∀ k j, k < m → j < m → k ≠ j → pb k ≠ pb j ∧ tb k ≠ tb j
/-- Its own blocks. -/
def LkM.S (m : Nat) (pb tb : Nat → Nat) (b : Nat) : Prop := ∃ k, k < m ∧ (b = pb k ∨ b = tb k)
theorem LkM.kept {W W' : World} {E LB n m : Nat} {pb tb : Nat → Nat} {pv : Nat → Nat → Nat → Int} {tv : Nat → Nat → Nat → Value} (h : LkM W E LB n m pb tb pv tv) (hb : Below W.heap.size W W') : LkM W' E LB n m pb tb pv tv :=
  ⟨fun k hk => ⟨(hb.cell (World.block_lt_of_cell? W _ (h.cl k hk).1)).trans (h.cl k hk).1, (hb.cell (World.block_lt_of_cell? W _ (h.cl k hk).2)).trans (h.cl k hk).2⟩,
   fun k i e hk hi he => ⟨(hb.cell (World.block_lt_of_cell? W _ (h.pc k i e hk hi he).1)).trans (h.pc k i e hk hi he).1, (hb.frozen (p := ⟨pb k, 2 * i + e, none⟩) (World.block_lt_of_cell? W _ (h.pc k i e hk hi he).1)).trans (h.pc k i e hk hi he).2⟩,
   fun k i e hk hi he => ⟨(hb.cell (World.block_lt_of_cell? W _ (h.tc k i e hk hi he).1)).trans (h.tc k i e hk hi he).1, (hb.frozen (p := ⟨tb k, 2 * i + e, none⟩) (World.block_lt_of_cell? W _ (h.tc k i e hk hi he).1)).trans (h.tc k i e hk hi he).2⟩,
   h.lo, fun k hk => ⟨Nat.lt_of_lt_of_le (h.lt k hk).1 hb.size, Nat.lt_of_lt_of_le (h.lt k hk).2 hb.size⟩, h.ne, h.pt, h.pp⟩
theorem LkM.drew {W : World} {E LB n m : Nat} {pb tb : Nat → Nat} {pv : Nat → Nat → Nat → Int} {tv : Nat → Nat → Nat → Value} (h : LkM W E LB n m pb tb pv tv) : LkM W.drew E LB n m pb tb pv tv := ⟨h.cl, h.pc, h.tc, h.lo, h.lt, h.ne, h.pt, h.pp⟩
def put3 {α : Type} (f : Nat → Nat → Nat → α) (k i e : Nat) (x : α) (k' i' e' : Nat) : α := if k' = k ∧ i' = i ∧ e' = e then x else f k' i' e'
theorem two_e {i e i' e' : Nat} (he : e < 2) (he' : e' < 2) (h : 2 * i' + e' = 2 * i + e) : i' = i ∧ e' = e := by omega
theorem LkM.putP {W : World} {E LB n m : Nat} {pb tb : Nat → Nat} {pv : Nat → Nat → Nat → Int} {tv : Nat → Nat → Nat → Value} (h : LkM W E LB n m pb tb pv tv) {k i e : Nat} (hk : k < m) (hi : i < n) (he : e < 2) (x : Int) : LkM (W.setCell ⟨pb k, 2 * i + e, none⟩ (.int .u64 x)) E LB n m pb tb (put3 pv k i e x) tv := by
  have far : ∀ (b q : Nat) (v : Value), b ≠ pb k → W.cell? ⟨b, q, none⟩ = some v → (W.setCell ⟨pb k, 2 * i + e, none⟩ (.int .u64 x)).cell? ⟨b, q, none⟩ = some v := fun b q v hb hc => by
    rw [World.cell?_setCell_other _ _ _ _ (by intro e2; simp only [Addr.mk.injEq] at e2; exact hb e2.1.symm)]; exact hc
  refine ⟨fun j hj => ⟨far _ _ _ (h.ne k hk).1.symm (h.cl j hj).1, far _ _ _ (h.ne k hk).1.symm (h.cl j hj).2⟩, fun j i' e' hj hi' he' => ?_, fun j i' e' hj hi' he' => ⟨far _ _ _ (h.pt k j hk hj).symm (h.tc j i' e' hj hi' he').1, by rw [World.frozen?_setCell]; exact (h.tc j i' e' hj hi' he').2⟩, h.lo, fun j hj => by rw [World.size_setCell]; exact h.lt j hj, h.ne, h.pt, h.pp⟩
  refine ⟨?_, by rw [World.frozen?_setCell]; exact (h.pc j i' e' hj hi' he').2⟩
  by_cases hkj : j = k
  · subst hkj
    by_cases hp : i' = i ∧ e' = e
    · obtain ⟨rfl, rfl⟩ := hp
      rw [World.cell?_setCell_same _ _ _ (h.pc j i' e' hj hi' he').1, put3, if_pos ⟨rfl, rfl, rfl⟩]
    · rw [World.cell?_setCell_other _ _ _ _ (by intro e2; simp only [Addr.mk.injEq, true_and, and_true] at e2; exact hp (two_e he he' e2.symm)), put3, if_neg (fun h2 => hp h2.2)]
      exact (h.pc j i' e' hj hi' he').1
  · rw [put3, if_neg (fun h2 => hkj h2.1)]
    exact far _ _ _ (h.pp j k hj hk hkj).1 (h.pc j i' e' hj hi' he').1
theorem LkM.putT {W : World} {E LB n m : Nat} {pb tb : Nat → Nat} {pv : Nat → Nat → Nat → Int} {tv : Nat → Nat → Nat → Value} (h : LkM W E LB n m pb tb pv tv) {k i e : Nat} (hk : k < m) (hi : i < n) (he : e < 2) (x : Value) : LkM (W.setCell ⟨tb k, 2 * i + e, none⟩ x) E LB n m pb tb pv (put3 tv k i e x) := by
  have far : ∀ (b q : Nat) (v : Value), b ≠ tb k → W.cell? ⟨b, q, none⟩ = some v → (W.setCell ⟨tb k, 2 * i + e, none⟩ x).cell? ⟨b, q, none⟩ = some v := fun b q v hb hc => by
    rw [World.cell?_setCell_other _ _ _ _ (by intro e2; simp only [Addr.mk.injEq] at e2; exact hb e2.1.symm)]; exact hc
  refine ⟨fun j hj => ⟨far _ _ _ (h.ne k hk).2.symm (h.cl j hj).1, far _ _ _ (h.ne k hk).2.symm (h.cl j hj).2⟩, fun j i' e' hj hi' he' => ⟨far _ _ _ (h.pt j k hj hk) (h.pc j i' e' hj hi' he').1, by rw [World.frozen?_setCell]; exact (h.pc j i' e' hj hi' he').2⟩, fun j i' e' hj hi' he' => ?_, h.lo, fun j hj => by rw [World.size_setCell]; exact h.lt j hj, h.ne, h.pt, h.pp⟩
  refine ⟨?_, by rw [World.frozen?_setCell]; exact (h.tc j i' e' hj hi' he').2⟩
  by_cases hkj : j = k
  · subst hkj
    by_cases hp : i' = i ∧ e' = e
    · obtain ⟨rfl, rfl⟩ := hp
      rw [World.cell?_setCell_same _ _ _ (h.tc j i' e' hj hi' he').1, put3, if_pos ⟨rfl, rfl, rfl⟩]
    · rw [World.cell?_setCell_other _ _ _ _ (by intro e2; simp only [Addr.mk.injEq, true_and, and_true] at e2; exact hp (two_e he he' e2.symm)), put3, if_neg (fun h2 => hp h2.2)]
      exact (h.tc j i' e' hj hi' he').1
  · rw [put3, if_neg (fun h2 => hkj h2.1)]
    exact far _ _ _ (h.pp j k hj hk hkj).2 (h.tc j i' e' hj hi' he').1
/-- The places of a table's pairs: number j of them. -/
def endQ (pl : Nat → Nat) (H j : Nat) : Nat := pl (j / 2) % H + j % 2 * H
def endV (pl : Nat → Nat) (H t : Nat) : List Value := (List.range t).map fun j => Value.int .i64 ((endQ pl H j : Nat) : Int)
theorem endV_len (pl : Nat → Nat) (H t : Nat) : (endV pl H t).length = t := by simp [endV]
theorem endV_at (pl : Nat → Nat) (H t j : Nat) (h : j < t) : (endV pl H t)[j]? = some (.int .i64 ((endQ pl H j : Nat) : Int)) := by simp [endV, h]
theorem endV_next (pl : Nat → Nat) (H k : Nat) (q : Nat) (hq : pl k % H = q) : endV pl H (2 * k) ++ [.int .i64 (q : Int), .int .i64 ((q : Int) + (H : Int))] = endV pl H (2 * (k + 1)) := by
  unfold endV
  rw [show 2 * (k + 1) = 2 * k + 1 + 1 from by omega, List.range_succ, List.range_succ, List.map_append, List.map_append, List.append_assoc]
  congr 1
  have e0 : endQ pl H (2 * k) = q := by unfold endQ; rw [Nat.mul_div_cancel_left _ (by omega), Nat.mul_mod_right, Nat.zero_mul, Nat.add_zero, hq]
  have e1 : endQ pl H (2 * k + 1) = q + H := by unfold endQ; rw [show (2 * k + 1) / 2 = k from by omega, show (2 * k + 1) % 2 = 1 from by omega, Nat.one_mul, hq]
  simp [e0, e1]

end Go.Proofs.YtbchbmelofojkaaGreatDoor

/-
  A contract of package open's lookInto: all looks are told what they see in one table; it makes new blocks, and writes nothing that was there but the looks' own pairs and paths.
-/
namespace Go.Proofs.YtbchbmelofojkaaGreatDoor
open Go.RowKit
set_option linter.unusedVariables false
attribute [local go_sem ↓] Go.wp_at_zero Go.wp_at_succ

theorem Tryz.infoJ : (Tryz.prog.info? 3).map (fun i => (i.zero, i.size, i.bytes)) = some (some (.int .i64 0), 1, 8) := by kernel_rfl
/-- What is told of table i, as far as t numbers of it. -/
def updI {α : Type} (f : Nat → Nat → Nat → α) (i t : Nat) (x : Nat → α) (k' i' e' : Nat) : α := if i' = i ∧ e' < 2 ∧ 2 * k' + e' < t then x (2 * k' + e') else f k' i' e'
theorem updI_zero {α : Type} (f : Nat → Nat → Nat → α) (i : Nat) (x : Nat → α) : updI f i 0 x = f := by
  funext k' i' e'
  unfold updI
  rw [if_neg (fun h => absurd h.2.2 (by omega))]
theorem updI_next {α : Type} (f : Nat → Nat → Nat → α) (i t k s : Nat) (x : Nat → α) (hs : s < 2) (ht : t = 2 * k + s) (y : α) (hy : y = x t) : ∀ k' i' e', e' < 2 → put3 (updI f i t x) k i s y k' i' e' = updI f i (t + 1) x k' i' e' := fun k' i' e' he' => by
  unfold put3
  by_cases h : k' = k ∧ i' = i ∧ e' = s
  · obtain ⟨rfl, rfl, rfl⟩ := h
    rw [if_pos ⟨rfl, rfl, rfl⟩, updI, if_pos ⟨rfl, hs, by omega⟩, ← ht, hy]
  · rw [if_neg h, updI, updI]
    by_cases h1 : i' = i ∧ e' < 2 ∧ 2 * k' + e' < t
    · rw [if_pos h1, if_pos ⟨h1.1, h1.2.1, by omega⟩]
    · rw [if_neg h1, if_neg (fun h2 => h (by
        refine ⟨?_, h2.1, ?_⟩
        · by_cases h3 : 2 * k' + e' < t
          · exact absurd ⟨h2.1, h2.2.1, h3⟩ h1
          · omega
        · by_cases h3 : 2 * k' + e' < t
          · exact absurd ⟨h2.1, h2.2.1, h3⟩ h1
          · omega))]
theorem LkM.congr {W : World} {E LB n m : Nat} {pb tb : Nat → Nat} {pv pv' : Nat → Nat → Nat → Int} {tv tv' : Nat → Nat → Nat → Value} (h : LkM W E LB n m pb tb pv tv) (h1 : ∀ k i e, e < 2 → pv k i e = pv' k i e) (h2 : ∀ k i e, e < 2 → tv k i e = tv' k i e) : LkM W E LB n m pb tb pv' tv' :=
  ⟨h.cl, fun k i e hk hi he => by rw [← h1 k i e he]; exact h.pc k i e hk hi he, fun k i e hk hi he => by rw [← h2 k i e he]; exact h.tc k i e hk hi he, h.lo, h.lt, h.ne, h.pt, h.pp⟩
theorem irow_own {w : World} {base : Nat} {v : Value} {t : Nat} {pl : Nat → Nat} {H : Nat} (h : w.ownsRow base 3 1 v t (endV pl H t)) : ∃ ao c, v = .slice ao t c ∧ IRowP w ao t (fun j => ((endQ pl H j : Nat) : Int)) ∧ (∀ b off, ao = some ⟨b, off, none⟩ → base ≤ b) := by
  rcases h.2 with ⟨rfl, h0⟩ | ⟨g, cap, cur, rfl, hb, _⟩
  · exact ⟨none, 0, by rw [h0], fun h1 => by omega, fun b off e => by cases e⟩
  · exact ⟨some ⟨g, 0, none⟩, cap, rfl, fun _ => ⟨g, 0, rfl, fun j hj => by rw [Nat.zero_add, h.cellAt j (by omega), endV_at pl H t j hj]⟩, fun b off e => by injection e with e; injection e with e1 e2; omega⟩

set_option maxHeartbeats 8000000 in
set_option maxRecDepth 100000 in
theorem lookInto_ok (E LB n m i nv H N b off cap cpl : Nat) (apl : Option Addr) (pb tb : Nat → Nat) (pv : Nat → Nat → Nat → Int) (tv : Nat → Nat → Nat → Value) (f : Nat → Int) (pl : Nat → Nat) (w : World) (hi : i < n) (hnv1 : 1 ≤ nv) (hnv : nv ≤ 8) (hN : N = 2 ^ nv) (hH : N = 2 * H) (hm : m ≤ 32) (ht : Tab w) (hr : Row w b off N f) (hv : Nums f) (hp : IRowP w apl m fun j => (pl j : Int)) (hpl : ∀ j, j < m → pl j ≤ 1000) (hl : LkM w E LB n m pb tb pv tv) (hbS : ¬ LkM.S m pb tb b) :
    Calls Tryz.prog 52 #[.slice (some ⟨LB, 0, none⟩) m m, .int .i64 (i : Int), .slice (some ⟨b, off, none⟩) N cap, .slice apl m cpl] w fun e w' => e = .returned (.tuple #[]) ∧ ∃ a : Nat → Nat,
      LkM w' E LB n m pb tb (updI pv i (2 * m) fun j => nrm (f (endQ pl H j))) (updI tv i (2 * m) fun j => .slice (some ⟨a j, 0, none⟩) nv nv) ∧ ButS (LkM.S m pb tb) w w' ∧ ∀ j, j < 2 * m → w.heap.size ≤ a j ∧ a j < w'.heap.size ∧ Row w' (a j) 0 nv (pathQ nv f (endQ pl H j)) ∧ Free w' (a j) 0 nv := by
  have hH1 : 1 ≤ H := by have := Nat.two_pow_pos nv; omega
  have hH2 : H ≤ 256 := by have : 2 ^ nv ≤ 2 ^ 8 := Nat.pow_le_pow_right (by omega) hnv; omega
  obtain ⟨i0, hi0, hz0, hz1, hz2⟩ := info_parts Tryz.infoJ
  have HI := hid (And.intro hi0 (And.intro hz0 (And.intro hz1 hz2)))
  have HN := hid hN
  have HT := hid ht
  have HR := hid hr
  have HV := hid hv
  have HP := hid hp
  have HPL := hid hpl
  have HL := hid hl
  have HBS := hid hbS
  subst hH
  clear hN ht hr hv hp hpl hl hbS hi0 hz0 hz1 hz2
  go_enter Tryz.func52, Tryz.ntmps52
  go_wp2_with fail
  go_loopg [9, 23] m (fun q x9 x23 wr => ∃ (t : Nat) (v : Value), t ≤ m ∧ q = m - t ∧ x9 = v ∧ x23 = .int .i64 (t : Int) ∧ Hid (wr.ownsRow w.heap.size 3 1 v (2 * t) (endV pl H (2 * t))) ∧ Hid (Below w.heap.size w wr))
  case atStart => exact ⟨0, _, by omega, rfl, rfl, rfl, hid (World.ownsRow_nil w w.heap.size 3 1), hid (Below.refl _ _)⟩
  case round =>
    obtain ⟨t, v, htm, rfl, rfl, rfl, HO, HB⟩ := hrel
    by_cases hlt : t < m
    · obtain ⟨bp, op, rfl, hpr⟩ := (HP.out.kept HB.out) (by omega)
      have c1 := hpr t hlt
      dsimp only at c1
      have hp8 := HPL.out t hlt
      obtain ⟨q, hq⟩ : ∃ q, pl t % H = q := ⟨_, rfl⟩
      have HE := hid (endV_next pl H t q hq)
      obtain ⟨p, hpp⟩ : ∃ p, pl t = p := ⟨_, rfl⟩
      rw [hpp] at c1 hp8 hq
      have hmod : (p : Int) % (H : Int) = (q : Int) := by rw [← hq]; simp
      have htmd : (p : Int).tmod (H : Int) = (q : Int) := by rw [← hq, Int.tmod_eq_emod_of_nonneg (by omega)]; simp
      have hqH : q < H := by rw [← hq]; exact Nat.mod_lt _ hH1
      have t0 : (0 : Int) ≤ (t : Int) := by omega
      have t1 : (t : Int) < (m : Int) := by omega
      have hz : ((H : Int) == 0) = false := by rw [beq_eq_false_iff_ne]; omega
      have hz2 : ¬ (H : Int) = 0 := by omega
      have hz3 : ¬ H = 0 := by omega
      have wr0 : IntKind.i64.wrap (q : Int) = (q : Int) := IntWalk.i64_in _ (by omega)
      have wr1 : IntKind.i64.wrap ((q : Int) + (H : Int)) = (q : Int) + (H : Int) := IntWalk.i64_in _ (by omega)
      clear hpr hpp hq
      go_wp2_with fail
      go_region_held3 (fun _ => True) (trivial) (first
        | (refine step_append_lies _ (by rfl) (.tmp 27) (.tmp 36) 45 (by rfl) w.heap.size 3 i0 (.int .i64 0) 1 8 Tryz.underlying45 HI.out.1 HI.out.2.1 HI.out.2.2.1 HI.out.2.2.2 rfl (by decide) _ (2 * t) (endV pl H (2 * t)) (by rfl) (World.ownsRow.alloc HO.out _) ⟨wr.heap.size, 0, none⟩ 2 2 [.int .i64 (q : Int), .int .i64 ((q : Int) + (H : Int))] (by rfl) (by rfl) (by intro j u hj; match j, hj with | 0, hj => (simp at hj; subst hj; simp [Addr.add]) | 1, hj => (simp at hj; subst hj; simp [Addr.add])) (by intro u hu; simp at hu; rcases hu with rfl | rfl <;> rfl) (by omega) (by unfold maxLen; omega) (by omega) (by have := HB.out.size; simp; omega) _ rfl ?_; intro g6 c6 w6 hown6 hgrow6 hat6 hlt6; have HG6 := hid (And.intro hown6 (And.intro hgrow6 hlt6)); clear hown6 hgrow6 hat6 hlt6))
      all_goals (go_wp2_with fail)
      all_goals (go_roundg (m - (t + 1)))
      all_goals first | (go_light; omega) | skip
      all_goals
        have ho := HG6.out.1
        rw [HE.out, show 2 * t + 2 = 2 * (t + 1) from by omega] at ho
        have hb6 : Below w.heap.size w w6 := ((HB.out.alloc HB.out.size _).drew).grown HG6.out.2.1 (by have := HB.out.size; show w.heap.size ≤ (wr.alloc _).heap.size; simp; omega) (by intro t ht; exact (World.ownsRow.lt HO.out t ht).1)
        exact ⟨t + 1, _, by omega, rfl, rfl, by go_num, hid ho, hid hb6⟩
    · have e : t = m := by omega
      subst e
      obtain ⟨ao, ce, hve, hie, hbase⟩ := irow_own HO.out
      subst hve
      have HPT := hid (tpaths_ok nv (2 * H) b off cap (2 * t) ce ao f (endQ pl H) wr hnv HN.out (HT.out.kept HB.out HT.out.1) (HR.out.kept HB.out (HR.out.lt (by omega))) HV.out (by omega) hie (fun j hj => by
        have h1 : pl (j / 2) % H < H := Nat.mod_lt _ hH1
        have h2 : j % 2 < 2 := Nat.mod_lt _ (by omega)
        unfold endQ
        rcases (show j % 2 = 0 ∨ j % 2 = 1 by omega) with h | h <;> rw [h] <;> omega))
      have HIE := hid (And.intro hie hbase)
      clear hie hbase HO
      go_wp2_with (go_at_call 49; refine (HPT.out).mono ?_; rintro e w1 ⟨W, a, rfl, hbW, hly⟩; have HBW := hid hbW; have HLY := hid hly; clear hbW hly)
      have hW1 : Below wr.heap.size wr w1 := HBW.out.trans (HLY.out.below.mono HBW.out.size)
      have hW0 : Below w.heap.size w w1 := HB.out.trans (hW1.mono HB.out.size)
      have HSL : Hid (∀ c, LkM.S t pb tb c → c < w.heap.size) := hid (fun c ⟨k, hk, h⟩ => by rcases h with rfl | rfl; exact (HL.out.lt k hk).1; exact (HL.out.lt k hk).2)
      have HW0 := hid hW0
      have HW1 := hid hW1
      have HWs : Hid (w.heap.size ≤ wr.heap.size ∧ wr.heap.size ≤ W.heap.size ∧ W.heap.size < w1.heap.size) := hid ⟨HB.out.size, HBW.out.size, HLY.out.lt⟩
      obtain ⟨PW, hPW⟩ : ∃ PW, W.heap.size = PW := ⟨_, rfl⟩
      have HPW := hid hPW
      rw [hPW]
      clear hPW HPT hW1 hW0
      go_loopg [47] (2 * t) (fun q x47 ws => ∃ e : Nat, e ≤ 2 * t ∧ q = 2 * t - e ∧ x47 = .int .i64 (e : Int) ∧ Hid (LkM ws E LB n t pb tb (updI pv i e fun j => nrm (f (endQ pl H j))) (updI tv i e fun j => .slice (some ⟨a j, 0, none⟩) nv nv)) ∧ Hid (ButS (LkM.S t pb tb) w1 ws))
      case atStart => exact ⟨0, by omega, rfl, rfl, hid (by rw [updI_zero, updI_zero]; exact HL.out.kept HW0.out), hid (ButS.refl _ _)⟩
      case round =>
        obtain ⟨e, het, rfl, rfl, HM, HS⟩ := hrel
        by_cases hlt2 : e < 2 * t
        · obtain ⟨be, oe, rfl, her⟩ := HIE.out.1 (by omega)
          have hbe := HIE.out.2 be oe rfl
          have c0 := her e hlt2
          have c0 := HS.out.cell (keepD HW1.out c0) (fun h => by have h1 := HSL.out _ h; simp only at h1; omega)
          have hal : endQ pl H e < 2 * H := by
            have h1 : pl (e / 2) % H < H := Nat.mod_lt _ hH1
            unfold endQ
            rcases (show e % 2 = 0 ∨ e % 2 = 1 by omega) with h | h <;> rw [h] <;> omega
          have c1 := HS.out.cell (keepD HW0.out (HR.out (endQ pl H e) hal)) HBS.out
          have c2 := HLY.out.cell e hlt2
          rw [HPW.out] at c2
          have c2 := HS.out.cell c2 (fun h => by have h1 := HSL.out _ h; have h2 := HWs.out; have h3 := HPW.out; simp only at h1; omega)
          obtain ⟨k, hk⟩ : ∃ k, e / 2 = k := ⟨_, rfl⟩
          obtain ⟨s, hs⟩ : ∃ s, e % 2 = s := ⟨_, rfl⟩
          have hkt : k < t := by omega
          have hs2 : s < 2 := by omega
          have hes : e = 2 * k + s := by omega
          obtain ⟨l0, l1⟩ := HM.out.cl k hkt
          obtain ⟨p0, p1⟩ := HM.out.pc k i s hkt hi hs2
          obtain ⟨q0, q1⟩ := HM.out.tc k i s hkt hi hs2
          rw [Nat.mul_comm 2 k] at l0 l1
          rw [Nat.mul_comm 2 i] at p0 p1 q0 q1
          have hdk : (e : Int) / 2 = (k : Int) := by omega
          have hds : (e : Int) % 2 = (s : Int) := by omega
          have bx := HV.out (endQ pl H e)
          have HXE : Hid (nrm (f (endQ pl H e)) = (fun j => nrm (f (endQ pl H j))) e) := hid rfl
          have HNE : Hid (pb k ≠ b ∧ tb k ≠ PW ∧ pb k ≠ tb k) := hid ⟨fun h => HBS.out ⟨k, hkt, .inl h.symm⟩, fun h => by have h1 := (HL.out.lt k hkt).2; have h2 := HWs.out; have h3 := HPW.out; omega, HL.out.pt k k hkt hkt⟩
          have HNP : Hid (pb k ≠ PW) := hid (fun h => by have h1 := (HL.out.lt k hkt).1; have h2 := HWs.out; have h3 := HPW.out; omega)
          have HLTs : Hid (pb k < wr.heap.size ∧ tb k < wr.heap.size) := hid (HM.out.lt k hkt)
          have HPVN := hid (updI_next pv i e k s (fun j => nrm (f (endQ pl H j))) hs2 hes (nrm (f (endQ pl H e))) rfl)
          have HTVN := hid (updI_next tv i e k s (fun j => Value.slice (some ⟨a j, 0, none⟩) nv nv) hs2 hes (.slice (some ⟨a e, 0, none⟩) nv nv) rfl)
          have HMK : Hid (∀ W, LkM W E LB n t pb tb (updI pv i e fun j => nrm (f (endQ pl H j))) (updI tv i e fun j => .slice (some ⟨a j, 0, none⟩) nv nv) → LkM ((W.setCell ⟨pb k, i * 2 + s, none⟩ (.int .u64 (nrm (f (endQ pl H e))))).drew.setCell ⟨tb k, i * 2 + s, none⟩ (.slice (some ⟨a e, 0, none⟩) nv nv)) E LB n t pb tb (updI pv i (e + 1) fun j => nrm (f (endQ pl H j))) (updI tv i (e + 1) fun j => .slice (some ⟨a j, 0, none⟩) nv nv)) := hid (fun W h => by
            have h1 := ((h.putP hkt hi hs2 (nrm (f (endQ pl H e)))).drew.putT hkt hi hs2 (.slice (some ⟨a e, 0, none⟩) nv nv)).congr (fun k' i' e' he' => HPVN.out k' i' e' he') (fun k' i' e' he' => HTVN.out k' i' e' he')
            rw [show 2 * i + s = i * 2 + s from by omega] at h1
            exact h1)
          have HSP : Hid (LkM.S t pb tb (pb k) ∧ LkM.S t pb tb (tb k)) := hid ⟨⟨k, hkt, .inl rfl⟩, ⟨k, hkt, .inr rfl⟩⟩
          obtain ⟨pq, hpq⟩ : ∃ x, updI pv i e (fun j => nrm (f (endQ pl H j))) k i s = x := ⟨_, rfl⟩
          obtain ⟨tq, htq⟩ : ∃ x, updI tv i e (fun j => Value.slice (some ⟨a j, 0, none⟩) nv nv) k i s = x := ⟨_, rfl⟩
          rw [hpq] at p0
          rw [htq] at q0
          have HNO := hid (fun W => norm_any (f (endQ pl H e)) W bx.1 bx.2)
          generalize f (endQ pl H e) = x at c1 HNO HMK
          obtain ⟨at', hat⟩ : ∃ y, endQ pl H e = y := ⟨_, rfl⟩
          dsimp only at c0
          rw [hat] at c0 c1 hal
          obtain ⟨ae, hae⟩ : ∃ y, a e = y := ⟨_, rfl⟩
          rw [hae] at c2 HMK
          obtain ⟨pbk, hpb⟩ : ∃ y, pb k = y := ⟨_, rfl⟩
          obtain ⟨tbk, htb⟩ : ∃ y, tb k = y := ⟨_, rfl⟩
          rw [hpb] at l0 p0 p1 HMK HSP HNE HLTs HNP
          rw [htb] at l1 q0 q1 HMK HSP HNE HLTs
          have e0 : (0 : Int) ≤ (e : Int) := by omega
          have e1 : (e : Int) < ((2 * t : Nat) : Int) := by omega
          have e2 : (e : Int) < 2 * (t : Int) := by omega
          have k0 : (0 : Int) ≤ (k : Int) := by omega
          have k1 : (k : Int) < (t : Int) := by omega
          have s0 : (0 : Int) ≤ (s : Int) := by omega
          have s1 : (s : Int) < 2 := by omega
          have i0' : (0 : Int) ≤ (i : Int) := by omega
          have i1' : (i : Int) < (n : Int) := by omega
          have a0 : (0 : Int) ≤ (at' : Int) := by omega
          have a1 : (at' : Int) < 2 * (H : Int) := by omega
          have a2 : (at' : Int) < ((2 * H : Nat) : Int) := by omega
          have hbx := (Below.refl wr.heap.size wr).alloc (Nat.le_refl _) (.cells #[.slice (some ⟨pbk, 0, none⟩) n n, .slice (some ⟨tbk, 0, none⟩) n n] 50)
          have c1' := keepD hbx c1
          have c2' := keepD hbx c2
          have p0' := keepD hbx p0
          have p1' := (hbx.frozen (p := ⟨pbk, i * 2 + s, none⟩) HLTs.out.1).trans p1
          have q0' := keepD hbx q0
          have q1' := (hbx.frozen (p := ⟨tbk, i * 2 + s, none⟩) HLTs.out.2).trans q1
          have x0 : (wr.alloc (.cells #[.slice (some ⟨pbk, 0, none⟩) n n, .slice (some ⟨tbk, 0, none⟩) n n] 50)).cell? ⟨wr.heap.size, 0, none⟩ = some (.slice (some ⟨pbk, 0, none⟩) n n) := by rw [World.cell?_alloc_new]; rfl
          have x1 : (wr.alloc (.cells #[.slice (some ⟨pbk, 0, none⟩) n n, .slice (some ⟨tbk, 0, none⟩) n n] 50)).cell? ⟨wr.heap.size, 1, none⟩ = some (.slice (some ⟨tbk, 0, none⟩) n n) := by rw [World.cell?_alloc_new]; rfl
          have HM2 := hid (HM.out.kept hbx)
          have HS2 : Hid (ButS (LkM.S t pb tb) w1 (wr.alloc (.cells #[.slice (some ⟨pbk, 0, none⟩) n n, .slice (some ⟨tbk, 0, none⟩) n n] 50))) := hid (HS.out.trans (ButS.of hbx))
          have HNB : Hid (pbk ≠ wr.heap.size ∧ tbk ≠ wr.heap.size) := hid (by have := HLTs.out; omega)
          clear hk hs hes bx hpq htq hat hae hpb htb her hbe hal HPVN HTVN p0 p1 q0 q1 c1 c2 hbx HM HS HXE
          go_wp2_with fail
          clear l0 l1 c0 hdk hds
          obtain ⟨BX, hBX⟩ : ∃ BX, wr.heap.size = BX := ⟨_, rfl⟩
          rw [hBX] at x0 x1 HNB ⊢
          clear hBX
          generalize wr.alloc (.cells #[.slice (some ⟨pbk, 0, none⟩) n n, .slice (some ⟨tbk, 0, none⟩) n n] 50) = W2 at c1' c2' p0' p1' q0' q1' x0 x1 HM2 HS2 ⊢
          have HZ : Hid (∀ v, (W2.setCell ⟨pbk, i * 2 + s, none⟩ v).cell? ⟨BX, 0, none⟩ = some (.slice (some ⟨pbk, 0, none⟩) n n) ∧ (W2.setCell ⟨pbk, i * 2 + s, none⟩ v).cell? ⟨b, off + at', none⟩ = some (.int .u64 x)) := hid (fun v => ⟨by rw [World.cell?_setCell_other _ _ _ _ (by intro e; simp only [Addr.mk.injEq] at e; exact HNB.out.1 e.1)]; exact x0, by rw [World.cell?_setCell_other _ _ _ _ (by intro e; simp only [Addr.mk.injEq] at e; exact HNE.out.1 e.1)]; exact c1'⟩)
          go_region_held3 (fun W => W.cell? ⟨BX, 0, none⟩ = some (.slice (some ⟨pbk, 0, none⟩) n n) ∧ W.cell? ⟨b, off + at', none⟩ = some (.int .u64 x)) (first | assumption | exact ⟨x0, c1'⟩ | exact HZ.out _) (first | (go_at_call 48; refine (HNO.out _).mono ?_; rintro e w' ⟨rfl, hw⟩; obtain rfl := hw.symm))
          have HV3 : Hid (W2.heap.size = (W2.setCell ⟨pbk, i * 2 + s, none⟩ (.int .u64 (nrm x))).heap.size) := hid (by rw [World.size_setCell])
          have y1 : (W2.setCell ⟨pbk, i * 2 + s, none⟩ (.int .u64 (nrm x))).cell? ⟨BX, 1, none⟩ = some (.slice (some ⟨tbk, 0, none⟩) n n) := by rw [World.cell?_setCell_other _ _ _ _ (by intro e; simp only [Addr.mk.injEq] at e; exact HNB.out.1 e.1)]; exact x1
          have y2 : (W2.setCell ⟨pbk, i * 2 + s, none⟩ (.int .u64 (nrm x))).cell? ⟨PW, e, none⟩ = some (.slice (some ⟨ae, 0, none⟩) nv nv) := by rw [World.cell?_setCell_other _ _ _ _ (by intro e; simp only [Addr.mk.injEq] at e; exact HNP.out e.1)]; exact c2'
          have y3 : (W2.setCell ⟨pbk, i * 2 + s, none⟩ (.int .u64 (nrm x))).cell? ⟨tbk, i * 2 + s, none⟩ = some tq := by rw [World.cell?_setCell_other _ _ _ _ (by intro e; simp only [Addr.mk.injEq] at e; exact HNE.out.2.2 e.1)]; exact q0'
          have y4 : (W2.setCell ⟨pbk, i * 2 + s, none⟩ (.int .u64 (nrm x))).frozen? ⟨tbk, i * 2 + s, none⟩ = false := by rw [World.frozen?_setCell]; exact q1'
          have HM3 := hid (HMK.out _ HM2.out)
          have HS3 : Hid (ButS (LkM.S t pb tb) w1 (((W2.setCell ⟨pbk, i * 2 + s, none⟩ (.int .u64 (nrm x))).drew.setCell ⟨tbk, i * 2 + s, none⟩ (.slice (some ⟨ae, 0, none⟩) nv nv)))) := hid ((((HS2.out.set HSP.out.1 _).drew).set HSP.out.2 _))
          clear HMK HM2 HS2 HZ x0 x1 c1' c2' p0' p1' q0' q1'
          generalize (W2.setCell ⟨pbk, i * 2 + s, none⟩ (.int .u64 (nrm x))) = W3 at y1 y2 y3 y4 HM3 HS3 HV3 ⊢
          have HZ2 : Hid (∀ v, (W3.setCell ⟨tbk, i * 2 + s, none⟩ v).cell? ⟨BX, 1, none⟩ = some (.slice (some ⟨tbk, 0, none⟩) n n) ∧ (W3.setCell ⟨tbk, i * 2 + s, none⟩ v).cell? ⟨PW, e, none⟩ = some (.slice (some ⟨ae, 0, none⟩) nv nv)) := hid (fun v => ⟨by rw [World.cell?_setCell_other _ _ _ _ (by intro e; simp only [Addr.mk.injEq] at e; exact HNB.out.2 e.1)]; exact y1, by rw [World.cell?_setCell_other _ _ _ _ (by intro e; simp only [Addr.mk.injEq] at e; exact HNE.out.2.1 e.1)]; exact y2⟩)
          go_wp2_with fail
          go_region_held3 (fun W => W.cell? ⟨BX, 1, none⟩ = some (.slice (some ⟨tbk, 0, none⟩) n n) ∧ W.cell? ⟨PW, e, none⟩ = some (.slice (some ⟨ae, 0, none⟩) nv nv)) (first | assumption | exact ⟨y1, y2⟩ | exact HZ2.out _) (fail)
          go_wp2_with fail
          go_roundg (2 * t - (e + 1))
          case measure => go_light; omega
          case rel => exact ⟨e + 1, by omega, rfl, by go_num, (by first | exact HM3 | exact hid HM3.out.drew | exact hid (HM3.out : LkM _ _ _ _ _ _ _ _ _)), (by first | exact HS3 | exact hid HS3.out.drew)⟩
        · have e2 : e = 2 * t := by omega
          subst e2
          go_wp2_with fail
          go_end0
          have hsz := HS.out.size
          refine ⟨rfl, a, HM.out, (ButS.of HW0.out).trans HS.out, fun j hj => ?_⟩
          have h1 := HLY.out.high j hj
          have h2 := HWs.out
          have hns : ¬ LkM.S t pb tb (a j) := fun h => by have h3 := HSL.out _ h; omega
          refine ⟨by omega, by omega, fun q hq => HS.out.cell (HLY.out.row j hj q hq) hns, fun q hq => (World.frozen?_of_block (HS.out.block (a j) h1.2 hns)).trans (HLY.out.may j hj q hq)⟩

end Go.Proofs.YtbchbmelofojkaaGreatDoor

/-
  Package open's Open, its first half: the lists that it makes; no program in it but the types' rows.
-/
namespace Go.Proofs.YtbchbmelofojkaaGreatDoor
open Go.RowKit
set_option linter.unusedVariables false
attribute [local go_sem ↓] Go.wp_at_zero Go.wp_at_succ

theorem Tryz.infoK : (Tryz.prog.info? 50).map (fun i => (i.zero, i.size, i.bytes)) = some (some (.agg #[.slice none 0 0, .slice none 0 0]), 2, 48) := by kernel_rfl
theorem Tryz.infoA : (Tryz.prog.info? 52).map (fun i => (i.zero, i.size, i.bytes)) = some (some (.agg #[.int .u64 0, .int .u64 0]), 2, 16) := by kernel_rfl
theorem Tryz.infoB : (Tryz.prog.info? 53).map (fun i => (i.zero, i.size, i.bytes)) = some (some (.agg #[.slice none 0 0, .slice none 0 0]), 2, 48) := by kernel_rfl
/-- The opening's lists, made and not yet told: roots in block RB, looks in block LB, the box X. -/
structure OpM (w W : World) (X RB LB n m : Nat) (v : Int) (rv : Nat → Int) : Prop where
  bel : Below w.heap.size w W
  box : Zero3 W X (.slice (some ⟨RB, 0, none⟩) n n) (.int .u64 v) (.slice (some ⟨LB, 0, none⟩) m m)
  rr : Row W RB 0 n rv
  rf : Free W RB 0 n
  lr : ∀ j, j < 2 * m → W.cell? ⟨LB, j, none⟩ = some (.slice none 0 0) ∧ W.frozen? ⟨LB, j, none⟩ = false
  lo : w.heap.size ≤ X ∧ w.heap.size ≤ RB ∧ w.heap.size ≤ LB
  lt : RB < W.heap.size ∧ LB < W.heap.size
  ne : X ≠ RB ∧ X ≠ LB ∧ RB ≠ LB
theorem run_make_looks (n : Nat) (hn : n ≤ 1000) (w : World) : (Instr.makeSlice 40 (.int .i64 (n : Int)) (.int .i64 (n : Int))).run Tryz.prog w = .ok (.slice (some ⟨w.heap.size, 0, none⟩) n n) (w.alloc (.cells (madeCells #[.slice none 0 0, .slice none 0 0] (n * 2)) 50)) := by
  obtain ⟨i, hi, hz⟩ := Option.map_eq_some_iff.1 Tryz.infoK
  simp only [Prod.mk.injEq] at hz
  obtain ⟨h1, h2, h3⟩ := hz
  have h := run_make (P := Tryz.prog) w 40 50 i _ Tryz.underlying40 hi h1 .i64 .i64 (n : Int) (n : Int) (by omega) (by omega) (by rw [h3]; omega) (by omega)
  rw [h2] at h
  exact h
theorem run_make_prs (n : Nat) (hn : n ≤ 1000) (w : World) : (Instr.makeSlice 47 (.int .i64 (n : Int)) (.int .i64 (n : Int))).run Tryz.prog w = .ok (.slice (some ⟨w.heap.size, 0, none⟩) n n) (w.alloc (.cells (madeCells #[.int .u64 0, .int .u64 0] (n * 2)) 52)) := by
  obtain ⟨i, hi, hz⟩ := Option.map_eq_some_iff.1 Tryz.infoA
  simp only [Prod.mk.injEq] at hz
  obtain ⟨h1, h2, h3⟩ := hz
  have h := run_make (P := Tryz.prog) w 47 52 i _ Tryz.underlying47 hi h1 .i64 .i64 (n : Int) (n : Int) (by omega) (by omega) (by rw [h3]; omega) (by omega)
  rw [h2] at h
  exact h
theorem run_make_pts (n : Nat) (hn : n ≤ 1000) (w : World) : (Instr.makeSlice 48 (.int .i64 (n : Int)) (.int .i64 (n : Int))).run Tryz.prog w = .ok (.slice (some ⟨w.heap.size, 0, none⟩) n n) (w.alloc (.cells (madeCells #[.slice none 0 0, .slice none 0 0] (n * 2)) 53)) := by
  obtain ⟨i, hi, hz⟩ := Option.map_eq_some_iff.1 Tryz.infoB
  simp only [Prod.mk.injEq] at hz
  obtain ⟨h1, h2, h3⟩ := hz
  have h := run_make (P := Tryz.prog) w 48 53 i _ Tryz.underlying48 hi h1 .i64 .i64 (n : Int) (n : Int) (by omega) (by omega) (by rw [h3]; omega) (by omega)
  rw [h2] at h
  exact h
theorem made_pair (x : Value) (m o : Nat) : (madeCells #[x, x] m)[o]? = if o < m then some x else none := by
  by_cases h : o < m
  · rw [if_pos h]
    have : o % 2 = 0 ∨ o % 2 = 1 := by omega
    rcases this with e | e <;> simp [madeCells, h, e]
  · rw [if_neg h]
    simp [madeCells, h]
/-- A list of pairs or looks that is made: all its cells. -/
theorem made_at (W : World) (x : Value) (m : Nat) (t : TypeId) : ∀ j, j < m * 2 → (W.alloc (.cells (madeCells #[x, x] (m * 2)) t)).cell? ⟨W.heap.size, j, none⟩ = some x ∧ (W.alloc (.cells (madeCells #[x, x] (m * 2)) t)).frozen? ⟨W.heap.size, j, none⟩ = false := fun j hj =>
  ⟨by rw [World.cell?_alloc_new, made_pair, if_pos hj], by rw [World.frozen?_alloc_new]⟩

theorem heap_0 (W : World) (x y z : Obj) : (((W.alloc x).alloc y).alloc z).heap[W.heap.size]? = some x :=
  ((bel_new _ z).block _ (by simp; omega)).trans (((bel_new _ y).block _ (by simp)).trans (heap_alloc_new W x))
theorem heap_1 (W : World) (x y z : Obj) : (((W.alloc x).alloc y).alloc z).heap[W.heap.size + 1]? = some y := by
  have e : (W.alloc x).heap.size = W.heap.size + 1 := by simp
  rw [← e]
  exact ((bel_new _ z).block _ (by simp)).trans (heap_alloc_new (W.alloc x) y)
theorem heap_2 (W : World) (x y z : Obj) : (((W.alloc x).alloc y).alloc z).heap[W.heap.size + 1 + 1]? = some z := by
  have e : ((W.alloc x).alloc y).heap.size = W.heap.size + 1 + 1 := by simp
  rw [← e]
  exact heap_alloc_new ((W.alloc x).alloc y) z
theorem OpM.of3 {W1 : World} {x y z : Obj} {X RB LB n m : Nat} {v : Int} {t0 t1 t2 : TypeId}
    (hX : (((W1.alloc x).alloc y).alloc z).heap[X]? = some (.cells #[.slice (some ⟨RB, 0, none⟩) n n, .int .u64 v, .slice (some ⟨LB, 0, none⟩) m m] t0))
    (hR : (((W1.alloc x).alloc y).alloc z).heap[RB]? = some (.cells (madeCells #[.int .u64 0] n) t1))
    (hL : (((W1.alloc x).alloc y).alloc z).heap[LB]? = some (.cells (madeCells #[.slice none 0 0, .slice none 0 0] (m * 2)) t2))
    (lo : W1.heap.size ≤ X ∧ W1.heap.size ≤ RB ∧ W1.heap.size ≤ LB) (ne : X ≠ RB ∧ X ≠ LB ∧ RB ≠ LB) : OpM W1 ((((W1.alloc x).alloc y).alloc z).drew) X RB LB n m v (fun _ => 0) := by
  have b1 := bel_new W1 x
  have b2 := bel_new (W1.alloc x) y
  have b3 := bel_new ((W1.alloc x).alloc y) z
  have hb := (b1.trans (b2.mono b1.size)).trans (b3.mono (Nat.le_trans b1.size b2.size))
  generalize ((W1.alloc x).alloc y).alloc z = W at hX hR hL hb ⊢
  refine ⟨hb.drew, ⟨⟨?_, ?_, ?_⟩, fun j _ => frozen_of_row W X j _ _ hX⟩, fun j hj => ?_, fun j hj => ?_, fun j hj => ⟨?_, frozen_of_row W LB j _ _ hL⟩, lo, ⟨?_, ?_⟩, ne⟩
  · exact cell_of_row W X 0 _ _ (0, 0) hX
  · exact cell_of_row W X 1 _ _ (0, 0) hX
  · exact cell_of_row W X 2 _ _ (0, 0) hX
  · rw [Nat.zero_add]
    refine (cell_of_row W RB j _ _ (0, 0) hR).trans ?_
    simp [madeCells, hj, Nat.mod_one]
  · rw [Nat.zero_add]
    exact frozen_of_row W RB j _ _ hR
  · refine (cell_of_row W LB j _ _ (0, 0) hL).trans ?_
    rw [made_pair, if_pos (by omega)]
  · exact (Array.getElem?_eq_some_iff.1 hR).1
  · exact (Array.getElem?_eq_some_iff.1 hL).1

theorem OpM.kept {w W W' : World} {X RB LB n m : Nat} {v : Int} {rv : Nat → Int} (h : OpM w W X RB LB n m v rv) (hb : Below W.heap.size W W') : OpM w W' X RB LB n m v rv :=
  ⟨h.bel.trans (hb.mono h.bel.size), h.box.kept hb, fun j hj => (hb.cell h.lt.1).trans (h.rr j hj), fun j hj => (hb.frozen h.lt.1).trans (h.rf j hj), fun j hj => ⟨(hb.cell h.lt.2).trans (h.lr j hj).1, (hb.frozen h.lt.2).trans (h.lr j hj).2⟩, h.lo, ⟨Nat.lt_of_lt_of_le h.lt.1 hb.size, Nat.lt_of_lt_of_le h.lt.2 hb.size⟩, h.ne⟩
theorem OpM.drew {w W : World} {X RB LB n m : Nat} {v : Int} {rv : Nat → Int} (h : OpM w W X RB LB n m v rv) : OpM w W.drew X RB LB n m v rv :=
  ⟨h.bel.drew, h.box.dr, h.rr, h.rf, h.lr, h.lo, h.lt, h.ne⟩
theorem OpM.putR {w W : World} {X RB LB n m : Nat} {v : Int} {rv : Nat → Int} (h : OpM w W X RB LB n m v rv) {i : Nat} (hi : i < n) (x : Int) (rv' : Nat → Int) (he : ∀ j, j < n → (if j = i then x else rv j) = rv' j) : OpM w (W.setCell ⟨RB, i, none⟩ (.int .u64 x)) X RB LB n m v rv' := by
  have hs := h.rr.store i x hi
  rw [Nat.zero_add] at hs
  refine ⟨h.bel.setCell h.lo.2.1 _, ⟨h.box.c.set h.ne.1, fun j hj => by rw [World.frozen?_setCell]; exact h.box.f j hj⟩, hs.congr he, fun j hj => by rw [World.frozen?_setCell]; exact h.rf j hj, fun j hj => ⟨?_, by rw [World.frozen?_setCell]; exact (h.lr j hj).2⟩, h.lo, by rw [World.size_setCell]; exact h.lt, h.ne⟩
  rw [World.cell?_setCell_other _ _ _ _ (by intro e; simp only [Addr.mk.injEq] at e; exact h.ne.2.2 e.1)]
  exact (h.lr j hj).1

/-- The looks' lists, made one by one: t of them. -/
structure LkT (W1 W : World) (X RB LB n m t : Nat) (v : Int) (rv : Nat → Int) (pb tb : Nat → Nat) : Prop where
  bel : Below W1.heap.size W1 W
  box : Bx3 W X (.slice (some ⟨RB, 0, none⟩) n n) (.int .u64 v) (.slice (some ⟨LB, 0, none⟩) m m)
  rr : Row W RB 0 n rv
  done : ∀ k, k < t → W.cell? ⟨LB, 2 * k, none⟩ = some (.slice (some ⟨pb k, 0, none⟩) n n) ∧ W.cell? ⟨LB, 2 * k + 1, none⟩ = some (.slice (some ⟨tb k, 0, none⟩) n n)
  todo : ∀ k, t ≤ k → k < m → W.cell? ⟨LB, 2 * k, none⟩ = some (.slice none 0 0) ∧ W.cell? ⟨LB, 2 * k + 1, none⟩ = some (.slice none 0 0)
  fl : ∀ j, j < 2 * m → W.frozen? ⟨LB, j, none⟩ = false
  pc : ∀ k j, k < t → j < n * 2 → W.cell? ⟨pb k, j, none⟩ = some (.int .u64 0) ∧ W.frozen? ⟨pb k, j, none⟩ = false
  tc : ∀ k j, k < t → j < n * 2 → W.cell? ⟨tb k, j, none⟩ = some (.slice none 0 0) ∧ W.frozen? ⟨tb k, j, none⟩ = false
  lo : W1.heap.size ≤ X ∧ W1.heap.size ≤ RB ∧ W1.heap.size ≤ LB
  lt : X < W.heap.size ∧ RB < W.heap.size ∧ LB < W.heap.size
  ne : X ≠ RB ∧ X ≠ LB ∧ RB ≠ LB
  hi : ∀ k, k < t → W1.heap.size ≤ pb k ∧ W1.heap.size ≤ tb k ∧ pb k < W.heap.size ∧ tb k < W.heap.size
  far : ∀ k, k < t → pb k ≠ X ∧ pb k ≠ RB ∧ pb k ≠ LB ∧ tb k ≠ X ∧ tb k ≠ RB ∧ tb k ≠ LB
  pt : ∀ k j, k < t → j < t → pb k ≠ tb j
  pp : ∀ k j, k < t → j < t → k ≠ j → pb k ≠ pb j ∧ tb k ≠ tb j
  rf : Free W RB 0 n
theorem OpM.looks {w W : World} {X RB LB n m : Nat} {v : Int} {rv : Nat → Int} (h : OpM w W X RB LB n m v rv) (pb tb : Nat → Nat) : LkT w W X RB LB n m 0 v rv pb tb :=
  ⟨h.bel, h.box.c, h.rr, fun k hk => absurd hk (by omega), fun k _ hk => ⟨(h.lr (2 * k) (by omega)).1, (h.lr (2 * k + 1) (by omega)).1⟩, fun j hj => (h.lr j hj).2, fun k j hk => absurd hk (by omega), fun k j hk => absurd hk (by omega), h.lo, ⟨World.block_lt_of_cell? W _ h.box.c.c0, h.lt⟩, h.ne, fun k hk => absurd hk (by omega), fun k hk => absurd hk (by omega), fun k j hk => absurd hk (by omega), fun k j hk => absurd hk (by omega), h.rf⟩
theorem LkT.kept {W1 W W' : World} {X RB LB n m t : Nat} {v : Int} {rv : Nat → Int} {pb tb : Nat → Nat} (h : LkT W1 W X RB LB n m t v rv pb tb) (hb : Below W.heap.size W W') : LkT W1 W' X RB LB n m t v rv pb tb :=
  ⟨h.bel.trans (hb.mono h.bel.size), h.box.kept hb, fun j hj => (hb.cell h.lt.2.1).trans (h.rr j hj), fun k hk => ⟨(hb.cell h.lt.2.2).trans (h.done k hk).1, (hb.cell h.lt.2.2).trans (h.done k hk).2⟩, fun k h1 hk => ⟨(hb.cell h.lt.2.2).trans (h.todo k h1 hk).1, (hb.cell h.lt.2.2).trans (h.todo k h1 hk).2⟩, fun j hj => (hb.frozen h.lt.2.2).trans (h.fl j hj),
   fun k j hk hj => ⟨(hb.cell (h.hi k hk).2.2.1).trans (h.pc k j hk hj).1, (hb.frozen (h.hi k hk).2.2.1).trans (h.pc k j hk hj).2⟩, fun k j hk hj => ⟨(hb.cell (h.hi k hk).2.2.2).trans (h.tc k j hk hj).1, (hb.frozen (h.hi k hk).2.2.2).trans (h.tc k j hk hj).2⟩, h.lo,
   ⟨Nat.lt_of_lt_of_le h.lt.1 hb.size, Nat.lt_of_lt_of_le h.lt.2.1 hb.size, Nat.lt_of_lt_of_le h.lt.2.2 hb.size⟩, h.ne, fun k hk => ⟨(h.hi k hk).1, (h.hi k hk).2.1, Nat.lt_of_lt_of_le (h.hi k hk).2.2.1 hb.size, Nat.lt_of_lt_of_le (h.hi k hk).2.2.2 hb.size⟩, h.far, h.pt, h.pp, h.rf.kept hb h.lt.2.1⟩
theorem LkT.drew {W1 W : World} {X RB LB n m t : Nat} {v : Int} {rv : Nat → Int} {pb tb : Nat → Nat} (h : LkT W1 W X RB LB n m t v rv pb tb) : LkT W1 W.drew X RB LB n m t v rv pb tb := h.kept (Below.refl _ W).drew
/-- One look's lists more. -/
theorem LkT.next {W1 W : World} {X RB LB n m t P T : Nat} {v : Int} {rv : Nat → Int} {pb tb : Nat → Nat} {x y : Obj} {t1 t2 : TypeId} (h : LkT W1 W X RB LB n m t v rv pb tb) (ht : t < m)
    (hP : ((W.alloc x).alloc y).heap[P]? = some (.cells (madeCells #[.int .u64 0, .int .u64 0] (n * 2)) t1)) (hT : ((W.alloc x).alloc y).heap[T]? = some (.cells (madeCells #[.slice none 0 0, .slice none 0 0] (n * 2)) t2))
    (lP : W.heap.size ≤ P) (lT : W.heap.size ≤ T) (hne : P ≠ T) :
    LkT W1 ((((W.alloc x).alloc y).setCell ⟨LB, t * 2, none⟩ (.slice (some ⟨P, 0, none⟩) n n)).setCell ⟨LB, t * 2 + 1, none⟩ (.slice (some ⟨T, 0, none⟩) n n)) X RB LB n m (t + 1) v rv (putA pb t P) (putA tb t T) := by
  have b1 := bel_new W x
  have b2 := bel_new (W.alloc x) y
  have h2 := h.kept (b1.trans (b2.mono b1.size))
  have hlt := h.lt
  have hlo := h.lo
  have hhi := h.hi
  have hsz := h.bel.size
  generalize (W.alloc x).alloc y = V at hP hT h2 ⊢
  have far : ∀ (b j : Nat) (u : Value), b ≠ LB → V.cell? ⟨b, j, none⟩ = some u → ((V.setCell ⟨LB, t * 2, none⟩ (.slice (some ⟨P, 0, none⟩) n n)).setCell ⟨LB, t * 2 + 1, none⟩ (.slice (some ⟨T, 0, none⟩) n n)).cell? ⟨b, j, none⟩ = some u := fun b j u hb hc => by
    rw [World.cell?_setCell_other _ _ _ _ (by intro e; simp only [Addr.mk.injEq] at e; exact hb e.1.symm), World.cell?_setCell_other _ _ _ _ (by intro e; simp only [Addr.mk.injEq] at e; exact hb e.1.symm)]; exact hc
  have same : ∀ (j : Nat) (u : Value), j ≠ t * 2 → j ≠ t * 2 + 1 → V.cell? ⟨LB, j, none⟩ = some u → ((V.setCell ⟨LB, t * 2, none⟩ (.slice (some ⟨P, 0, none⟩) n n)).setCell ⟨LB, t * 2 + 1, none⟩ (.slice (some ⟨T, 0, none⟩) n n)).cell? ⟨LB, j, none⟩ = some u := fun j u n1 n2 hc => by
    rw [World.cell?_setCell_other _ _ _ _ (by intro e; simp only [Addr.mk.injEq] at e; omega), World.cell?_setCell_other _ _ _ _ (by intro e; simp only [Addr.mk.injEq] at e; omega)]; exact hc
  have fz : ∀ a : Addr, ((V.setCell ⟨LB, t * 2, none⟩ (.slice (some ⟨P, 0, none⟩) n n)).setCell ⟨LB, t * 2 + 1, none⟩ (.slice (some ⟨T, 0, none⟩) n n)).frozen? a = V.frozen? a := fun a => by rw [World.frozen?_setCell, World.frozen?_setCell]
  have hc0 := (h2.todo t (Nat.le_refl _) ht).1
  have hc1 := (h2.todo t (Nat.le_refl _) ht).2
  rw [Nat.mul_comm 2 t] at hc0 hc1
  have old : ∀ k, k < t + 1 → k ≠ t → k < t := fun k h1 h2 => by omega
  refine ⟨(h2.bel.setCell hlo.2.2 _).setCell hlo.2.2 _, ⟨far _ _ _ h.ne.2.1 h2.box.c0, far _ _ _ h.ne.2.1 h2.box.c1, far _ _ _ h.ne.2.1 h2.box.c2⟩, fun j hj => far _ _ _ h.ne.2.2 (h2.rr j hj), fun k hk => ?_, fun k h1 hk => ⟨same _ _ (by omega) (by omega) (h2.todo k (by omega) hk).1, same _ _ (by omega) (by omega) (h2.todo k (by omega) hk).2⟩, fun j hj => by rw [fz]; exact h2.fl j hj, fun k j hk hj => ?_, fun k j hk hj => ?_, h2.lo, by rw [World.size_setCell, World.size_setCell]; exact h2.lt, h2.ne, fun k hk => ?_, fun k hk => ?_, fun k j hk hj => ?_, fun k j hk hj hkj => ?_, fun j hj => by rw [fz]; exact h2.rf j hj⟩
  · by_cases e : k = t
    · subst e
      rw [putA, putA, if_pos rfl, if_pos rfl, Nat.mul_comm 2 k]
      refine ⟨?_, ?_⟩
      · rw [World.cell?_setCell_other _ _ _ _ (by intro e; simp only [Addr.mk.injEq] at e; omega), World.cell?_setCell_same _ _ _ hc0]
      · rw [World.cell?_setCell_same _ _ _ (by rw [World.cell?_setCell_other _ _ _ _ (by intro e; simp only [Addr.mk.injEq] at e; omega)]; exact hc1)]
    · rw [putA, putA, if_neg e, if_neg e]
      exact ⟨same _ _ (by omega) (by omega) (h2.done k (old k hk e)).1, same _ _ (by omega) (by omega) (h2.done k (old k hk e)).2⟩
  · rw [fz]
    by_cases e : k = t
    · rw [putA, if_pos e]
      exact ⟨far _ _ _ (by omega) ((cell_of_row V P j _ _ (0, 0) hP).trans (by rw [made_pair, if_pos hj])), frozen_of_row V P j _ _ hP⟩
    · rw [putA, if_neg e]
      exact ⟨far _ _ _ (h.far k (old k hk e)).2.2.1 (h2.pc k j (old k hk e) hj).1, (h2.pc k j (old k hk e) hj).2⟩
  · rw [fz]
    by_cases e : k = t
    · rw [putA, if_pos e]
      exact ⟨far _ _ _ (by omega) ((cell_of_row V T j _ _ (0, 0) hT).trans (by rw [made_pair, if_pos hj])), frozen_of_row V T j _ _ hT⟩
    · rw [putA, if_neg e]
      exact ⟨far _ _ _ (h.far k (old k hk e)).2.2.2.2.2 (h2.tc k j (old k hk e) hj).1, (h2.tc k j (old k hk e) hj).2⟩
  · rw [World.size_setCell, World.size_setCell]
    by_cases e : k = t
    · rw [putA, putA, if_pos e, if_pos e]
      exact ⟨by omega, by omega, (Array.getElem?_eq_some_iff.1 hP).1, (Array.getElem?_eq_some_iff.1 hT).1⟩
    · rw [putA, putA, if_neg e, if_neg e]
      exact h2.hi k (old k hk e)
  · by_cases e : k = t
    · rw [putA, putA, if_pos e, if_pos e]; omega
    · rw [putA, putA, if_neg e, if_neg e]; exact h.far k (old k hk e)
  · by_cases e : k = t
    · rw [putA, if_pos e]
      by_cases e2 : j = t
      · rw [putA, if_pos e2]; exact hne
      · rw [putA, if_neg e2]; have := (hhi j (old j hj e2)).2.2.2; omega
    · rw [putA, if_neg e]
      by_cases e2 : j = t
      · rw [putA, if_pos e2]; have := (hhi k (old k hk e)).2.2.1; omega
      · rw [putA, if_neg e2]; exact h.pt k j (old k hk e) (old j hj e2)
  · by_cases e : k = t
    · have e2 : j ≠ t := fun h => hkj (e.trans h.symm)
      have := hhi j (old j hj e2)
      rw [putA, putA, putA, putA, if_pos e, if_neg e2, if_pos e, if_neg e2]; omega
    · by_cases e2 : j = t
      · have := hhi k (old k hk e)
        rw [putA, putA, putA, putA, if_neg e, if_pos e2, if_neg e, if_pos e2]; omega
      · rw [putA, putA, putA, putA, if_neg e, if_neg e2, if_neg e, if_neg e2]; exact h.pp k j (old k hk e) (old j hj e2) hkj
/-- All of them are made. -/
theorem LkT.all {W1 W : World} {X RB LB n m : Nat} {v : Int} {rv : Nat → Int} {pb tb : Nat → Nat} (h : LkT W1 W X RB LB n m m v rv pb tb) : LkM W W1.heap.size LB n m pb tb (fun _ _ _ => 0) (fun _ _ _ => .slice none 0 0) :=
  ⟨h.done, fun k i e hk hi he => h.pc k (2 * i + e) hk (by omega), fun k i e hk hi he => h.tc k (2 * i + e) hk (by omega), ⟨h.lo.2.2, fun k hk => ⟨(h.hi k hk).1, (h.hi k hk).2.1⟩⟩, fun k hk => ⟨(h.hi k hk).2.2.1, (h.hi k hk).2.2.2⟩, fun k hk => ⟨(h.far k hk).2.2.1, (h.far k hk).2.2.2.2.2⟩, h.pt, h.pp⟩

theorem heap2_0 (W : World) (x y : Obj) : ((W.alloc x).alloc y).heap[W.heap.size]? = some x := ((bel_new _ y).block _ (by simp)).trans (heap_alloc_new W x)
theorem heap2_1 (W : World) (x y : Obj) : ((W.alloc x).alloc y).heap[W.heap.size + 1]? = some y := by
  have e : (W.alloc x).heap.size = W.heap.size + 1 := by simp
  rw [← e]
  exact heap_alloc_new (W.alloc x) y

theorem set_past (W : World) (x y : Obj) (LB i : Nat) (u : Value) (h : LB < W.heap.size) : ((W.alloc x).alloc y).setCell ⟨LB, i, none⟩ u = ((W.setCell ⟨LB, i, none⟩ u).alloc x).alloc y := by
  rw [World.setCell_alloc_past _ _ _ _ (by simp; omega), World.setCell_alloc_past _ _ _ _ h]
theorem LkT.next2 {W1 W : World} {X RB LB n m t P T : Nat} {v : Int} {rv : Nat → Int} {pb tb : Nat → Nat} {x y : Obj} {t1 t2 : TypeId} (h : LkT W1 W X RB LB n m t v rv pb tb) (ht : t < m)
    (hP : ((W.alloc x).alloc y).heap[P]? = some (.cells (madeCells #[.int .u64 0, .int .u64 0] (n * 2)) t1)) (hT : ((W.alloc x).alloc y).heap[T]? = some (.cells (madeCells #[.slice none 0 0, .slice none 0 0] (n * 2)) t2))
    (lP : W.heap.size ≤ P) (lT : W.heap.size ≤ T) (hne : P ≠ T) :
    LkT W1 ((((W.setCell ⟨LB, t * 2, none⟩ (.slice (some ⟨P, 0, none⟩) n n)).setCell ⟨LB, t * 2 + 1, none⟩ (.slice (some ⟨T, 0, none⟩) n n)).alloc x).alloc y) X RB LB n m (t + 1) v rv (putA pb t P) (putA tb t T) := by
  have h1 := h.next ht hP hT lP lT hne
  rw [set_past _ _ _ _ _ _ h.lt.2.2, set_past _ _ _ _ _ _ (by rw [World.size_setCell]; exact h.lt.2.2)] at h1
  exact h1

/-- What is told of the first i tables. -/
def Told3 (E : Nat) (W : World) (S : Nat → Prop) (f g : Nat → Int) (n m i : Nat) (pl : Nat → Nat) (pv : Nat → Nat → Nat → Int) (tv : Nat → Nat → Nat → Value) : Prop :=
  ∀ k' i' e', k' < m → i' < i → e' < 2 → pv k' i' e' = oP f g n (pl k') i' e' ∧ ∃ a, tv k' i' e' = .slice (some ⟨a, 0, none⟩) (n - i') (n - i') ∧ Row W a 0 (n - i') (oT f g n (pl k') i' e') ∧ ¬ S a ∧ a < W.heap.size ∧ E ≤ a ∧ Free W a 0 (n - i')
theorem endQ_at (pl : Nat → Nat) (H k e : Nat) (he : e < 2) : endQ pl H (2 * k + e) = pl k % H + e * H := by
  unfold endQ
  rw [show (2 * k + e) / 2 = k from by omega, show (2 * k + e) % 2 = e from by omega]
theorem Told3.next {E : Nat} {W W' : World} {S : Nat → Prop} {f g : Nat → Int} {n m i : Nat} {pl : Nat → Nat} {pv : Nat → Nat → Nat → Int} {tv : Nat → Nat → Nat → Value} {a : Nat → Nat} (h : Told3 E W S f g n m i pl pv tv) (hE : E ≤ W.heap.size) (hB : ButS S W W') (hS : ∀ c, S c → c < W.heap.size)
    (ha : ∀ j, j < 2 * m → W.heap.size ≤ a j ∧ a j < W'.heap.size ∧ Row W' (a j) 0 (n - i) (pathQ (n - i) (fdQ f g n i) (endQ pl (hfQ n i) j)) ∧ Free W' (a j) 0 (n - i)) :
    Told3 E W' S f g n m (i + 1) pl (updI pv i (2 * m) fun j => nrm (fdQ f g n i (endQ pl (hfQ n i) j))) (updI tv i (2 * m) fun j => .slice (some ⟨a j, 0, none⟩) (n - i) (n - i)) := by
  intro k' i' e' hk hi he
  by_cases ei : i' = i
  · subst ei
    rw [updI, updI, if_pos ⟨rfl, he, by omega⟩, if_pos ⟨rfl, he, by omega⟩]
    obtain ⟨h1, h2, h3, h4⟩ := ha (2 * k' + e') (by omega)
    rw [endQ_at pl _ k' e' he] at h3 ⊢
    exact ⟨rfl, _, rfl, h3, fun hs => by have := hS _ hs; omega, h2, by omega, h4⟩
  · rw [updI, updI, if_neg (fun h2 => ei h2.1), if_neg (fun h2 => ei h2.1)]
    obtain ⟨h1, b, h2, h3, h4, h5, h6, h7⟩ := h k' i' e' hk (by omega) he
    exact ⟨h1, b, h2, fun j hj => hB.cell (h3 j hj) h4, h4, Nat.lt_of_lt_of_le h5 hB.size, h6, fun j hj => (World.frozen?_of_block (hB.block b h5 h4)).trans (h7 j hj)⟩
def adrOf (v : Value) : Option Addr := match v with | .slice a _ _ => a | _ => none
theorem LkM.opened {W : World} {E LB n m : Nat} {pb tb : Nat → Nat} {pv : Nat → Nat → Nat → Int} {tv : Nat → Nat → Nat → Value} {S : Nat → Prop} {f g : Nat → Int} {pl : Nat → Nat} (h : LkM W E LB n m pb tb pv tv) (ht : Told3 E W S f g n m n pl pv tv) :
    OpRow W (some ⟨LB, 0, none⟩) (rightO f g n m pl) ⟨fun k => some ⟨pb k, 0, none⟩, fun k => some ⟨tb k, 0, none⟩, fun _ => n, fun _ => n, fun k i e => adrOf (tv k i e), fun _ i _ => n - i⟩ := fun _ => by
  refine ⟨LB, 0, rfl, fun k hk => ?_⟩
  have hk : k < m := hk
  rw [Nat.zero_add]
  refine ⟨(h.cl k hk).1, (h.cl k hk).2, fun _ => ⟨pb k, 0, rfl, fun i hi => ?_⟩, fun _ => ⟨tb k, 0, rfl, fun i hi => ?_⟩⟩
  · have hi : i < n := hi
    have c0 := (h.pc k i 0 hk hi (by omega)).1
    have c1 := (h.pc k i 1 hk hi (by omega)).1
    rw [(ht k i 0 hk hi (by omega)).1] at c0
    rw [(ht k i 1 hk hi (by omega)).1] at c1
    rw [Nat.zero_add]
    exact ⟨c0, c1⟩
  · have hi : i < n := hi
    have c0 := (h.tc k i 0 hk hi (by omega)).1
    have c1 := (h.tc k i 1 hk hi (by omega)).1
    obtain ⟨_, a0, e0, r0, _⟩ := ht k i 0 hk hi (by omega)
    obtain ⟨_, a1, e1, r1, _⟩ := ht k i 1 hk hi (by omega)
    rw [Nat.zero_add]
    dsimp only
    rw [e0] at c0 ⊢
    rw [e1] at c1 ⊢
    exact ⟨c0, c1, PRow.of r0, PRow.of r1⟩
theorem load_opn {w : World} {b : Nat} {x0 x1 x2 : Value} (c0 : w.cell? ⟨b, 0, none⟩ = some x0) (c1 : w.cell? ⟨b, 1, none⟩ = some x1) (c2 : w.cell? ⟨b, 2, none⟩ = some x2) : (loadVar 42 ⟨b, 0, none⟩).run Tryz.prog w = .ok (.agg #[x0, x1, x2]) w := by
  go_simp
theorem results_opn {fn : Func} {p u : Tmp} (h : fn.results = #[.cell p 42, .tmp u]) {tmps : Array Value} {w : World} {b : Nat} {x0 x1 x2 : Value} (hp : tmps.getD p undef = .pointer (some ⟨b, 0, none⟩)) (c0 : w.cell? ⟨b, 0, none⟩ = some x0) (c1 : w.cell? ⟨b, 1, none⟩ = some x1) (c2 : w.cell? ⟨b, 2, none⟩ = some x2) :
    (results fn tmps).run Tryz.prog w = .ok (.tuple #[.agg #[x0, x1, x2], tmps.getD u undef]) w := by
  rw [results_cell_tmp h, hp]
  simp [asAddr, Result.andThen, load_opn c0 c1 c2]

theorem LkM.but {W W' : World} {E LB n m X0 : Nat} {pb tb : Nat → Nat} {pv : Nat → Nat → Nat → Int} {tv : Nat → Nat → Nat → Value} (h : LkM W E LB n m pb tb pv tv) (hb : ButS (fun c => c = X0) W W') (hx : X0 < E) : LkM W' E LB n m pb tb pv tv := by
  have fz : ∀ b j, b < W.heap.size → b ≠ X0 → W'.frozen? ⟨b, j, none⟩ = W.frozen? ⟨b, j, none⟩ := fun b j h1 h2 => World.frozen?_of_block (hb.block b h1 h2)
  refine ⟨fun k hk => ⟨hb.cell (h.cl k hk).1 ?_, hb.cell (h.cl k hk).2 ?_⟩, fun k i e hk hi he => ⟨hb.cell (h.pc k i e hk hi he).1 ?_, (fz _ _ (h.lt k hk).1 ?_).trans (h.pc k i e hk hi he).2⟩, fun k i e hk hi he => ⟨hb.cell (h.tc k i e hk hi he).1 ?_, (fz _ _ (h.lt k hk).2 ?_).trans (h.tc k i e hk hi he).2⟩, h.lo, fun k hk => ⟨Nat.lt_of_lt_of_le (h.lt k hk).1 hb.size, Nat.lt_of_lt_of_le (h.lt k hk).2 hb.size⟩, h.ne, h.pt, h.pp⟩
  · have := h.lo.1; show ¬ LB = X0; omega
  · have := h.lo.1; show ¬ LB = X0; omega
  · have := (h.lo.2 k hk).1; show ¬ pb k = X0; omega
  · have := (h.lo.2 k hk).1; omega
  · have := (h.lo.2 k hk).2; show ¬ tb k = X0; omega
  · have := (h.lo.2 k hk).2; omega
theorem Told3.but {E : Nat} {W W' : World} {S : Nat → Prop} {f g : Nat → Int} {n m i X0 : Nat} {pl : Nat → Nat} {pv : Nat → Nat → Nat → Int} {tv : Nat → Nat → Nat → Value} (h : Told3 E W S f g n m i pl pv tv) (hb : ButS (fun c => c = X0) W W') (hx : X0 < E) : Told3 E W' S f g n m i pl pv tv := fun k' i' e' hk hi he => by
  obtain ⟨h1, b, h2, h3, h4, h5, h6, h7⟩ := h k' i' e' hk hi he
  exact ⟨h1, b, h2, fun j hj => hb.cell (h3 j hj) (by show ¬ b = X0; omega), h4, Nat.lt_of_lt_of_le h5 hb.size, h6, fun j hj => (World.frozen?_of_block (hb.block b h5 (by omega))).trans (h7 j hj)⟩

theorem but_one {w W : World} {X0 j : Nat} (h : ButS (fun c => c = X0) w W) (y : Value) : ButS (fun c => c = X0) w (W.setCell ⟨X0, j, none⟩ y) := ButS.set (S := fun c => c = X0) h (b := X0) (show X0 = X0 from rfl) y
theorem but_set3 (w : World) (X0 : Nat) (u v x : Value) : ButS (fun c => c = X0) w (((w.setCell ⟨X0, 0, none⟩ u).setCell ⟨X0, 1, none⟩ v).setCell ⟨X0, 2, none⟩ x) := but_one (but_one (but_one (ButS.refl _ w) u) v) x

/-- The lists of an opening that a call made: they lie in new blocks, and may be written up to their caps. -/
def ownsO (w w' : World) (n m rb lb : Nat) : Prop := w.heap.size ≤ rb ∧ Free w' rb 0 n ∧ ∃ (pb tb : Nat → Nat) (pa : Nat → Nat → Nat → Nat), ∀ k, k < m →
  w'.cell? ⟨lb, 2 * k, none⟩ = some (.slice (some ⟨pb k, 0, none⟩) n n) ∧ w'.cell? ⟨lb, 2 * k + 1, none⟩ = some (.slice (some ⟨tb k, 0, none⟩) n n) ∧ w.heap.size ≤ pb k ∧
  (∀ j, j < 2 * n → (∃ x, w'.cell? ⟨pb k, j, none⟩ = some (.int .u64 x)) ∧ w'.frozen? ⟨pb k, j, none⟩ = false) ∧
  ∀ i e, i < n → e < 2 → w'.cell? ⟨tb k, 2 * i + e, none⟩ = some (.slice (some ⟨pa k i e, 0, none⟩) (n - i) (n - i)) ∧ w.heap.size ≤ pa k i e ∧ Free w' (pa k i e) 0 (n - i) ∧ ∃ f, Row w' (pa k i e) 0 (n - i) f
theorem LkM.owns {w W : World} {E LB n m rb : Nat} {pb tb : Nat → Nat} {pv : Nat → Nat → Nat → Int} {tv : Nat → Nat → Nat → Value} {S : Nat → Prop} {f g : Nat → Int} {pl : Nat → Nat} (h : LkM W E LB n m pb tb pv tv) (ht : Told3 E W S f g n m n pl pv tv) (hE : w.heap.size ≤ E) (hb : w.heap.size ≤ rb) (hf : Free W rb 0 n) : ownsO w W n m rb LB := by
  refine ⟨hb, hf, pb, tb, fun k i e => ((adrOf (tv k i e)).map Addr.block).getD 0, fun k hk => ⟨(h.cl k hk).1, (h.cl k hk).2, Nat.le_trans hE (h.lo.2 k hk).1, fun j hj => ?_, fun i e hi he => ?_⟩⟩
  · have h1 := h.pc k (j / 2) (j % 2) hk (by omega) (by omega)
    rw [show 2 * (j / 2) + j % 2 = j from by omega] at h1
    exact ⟨⟨_, h1.1⟩, h1.2⟩
  · obtain ⟨_, a, e1, r1, _, _, h6, h7⟩ := ht k i e hk hi he
    have hc := (h.tc k i e hk hi he).1
    rw [e1] at hc
    have e2 : ((adrOf (tv k i e)).map Addr.block).getD 0 = a := by rw [e1]; rfl
    dsimp only
    rw [e2]
    exact ⟨hc, Nat.le_trans hE h6, h7, _, r1⟩

end Go.Proofs.YtbchbmelofojkaaGreatDoor

/-
  A contract of package open's Open, of right arguments: the right opening, in new blocks; it writes nothing that was there.
-/
namespace Go.Proofs.YtbchbmelofojkaaGreatDoor
open Go.RowKit
set_option linter.unusedVariables false
attribute [local go_sem ↓] Go.wp_at_zero Go.wp_at_succ

set_option maxHeartbeats 16000000 in
set_option maxRecDepth 100000 in
theorem open_own (n N b off cap cp m cpl : Nat) (ap apl : Option Addr) (f g : Nat → Int) (pl : Nat → Nat) (w : World) (n1 : 1 ≤ n) (n8 : n ≤ 8) (hN : N = 2 ^ n) (ht : Tab w) (hr : Row w b off N f) (hv : Nums f) (hp : PRow w ap n g) (hg : Nums g) (hi : IRowP w apl m fun j => (pl j : Int)) (hpl : plOk m n fun j => (pl j : Int)) :
    Calls Tryz.prog 18 #[.slice (some ⟨b, off, none⟩) N cap, .slice ap n cp, .slice apl m cpl] w fun e w' => ∃ rb lb mm, e = .returned (.tuple #[.agg #[.slice (some ⟨rb, 0, none⟩) n n, .int .u64 (fdQ f g n n 0), .slice (some ⟨lb, 0, none⟩) m m], .int .i64 0]) ∧ Row w' rb 0 n (oR f g n) ∧ OpRow w' (some ⟨lb, 0, none⟩) (rightO f g n m pl) mm ∧ Below w.heap.size w w' ∧ ownsO w w' n m rb lb := by
  have m32 : m ≤ 32 := hpl.1
  have hb0 := bel_new w (.cells #[.slice none 0 0, .int .u64 0, .slice none 0 0] 42)
  have HZ0 := hid (Zero3.new w (.slice none 0 0) (.int .u64 0) (.slice none 0 0) 42)
  have HVA := hid (fun W (h : Below w.heap.size w W) => vars_ok (some ⟨b, off, none⟩) n N cap W n8 hN (ht.kept h ht.1))
  have HAP := hid (fun W (h : Below w.heap.size w W) => arePlaces_any m cpl n apl (fun j => (pl j : Int)) W n1 n8 (by unfold maxLen; omega) (hi.kept h))
  have HPL := hid hpl
  have HFO := hid (fun W (h : Below w.heap.size w W) => folds_ok n N b off cap cp ap f g W n8 hN (ht.kept h ht.1) (hr.kept h (hr.lt (by rw [hN]; exact Nat.two_pow_pos n))) hv (hp.kept h) hg)
  have HN := hid hN
  have HT := hid ht
  have HR := hid (And.intro hr hv)
  have HP := hid (And.intro hp hg)
  have HI := hid hi
  have HB0 := hid hb0
  have hz : ((n : Int) == 0) = false := by rw [beq_eq_false_iff_ne]; omega
  have hnn : ((n : Int) != (n : Int)) = false := by simp
  clear hN ht hr hv hp hg hi hpl hb0
  go_enter Tryz.func18, Tryz.ntmps18
  go_wp2_with fail
  obtain ⟨X0, hX0⟩ : ∃ X0, w.heap.size = X0 := ⟨_, rfl⟩
  have HX0 := hid hX0
  rw [hX0] at HZ0 ⊢
  clear hX0
  generalize w.alloc (.cells #[.slice none 0 0, .int .u64 0, .slice none 0 0] 42) = W0 at HZ0 HB0 ⊢
  refine (HVA.out _ HB0.out).mono ?_
  rintro e w' ⟨rfl, hw⟩
  obtain rfl := hw.symm
  go_wp2_with fail
  refine (HAP.out _ HB0.out).mono ?_
  rintro e w' ⟨r, rfl, hrr, hw⟩
  obtain rfl := hw.symm
  have hr2 : r = true := hrr.2 HPL.out
  subst hr2
  clear hrr
  go_wp2_with fail
  refine (HFO.out _ HB0.out).mono ?_
  rintro e W1 ⟨ao, c, A, C, rfl, hc, hfd, hb1⟩
  have HFD := hid hfd
  have HZ1 := hid (HZ0.out.kept hb1)
  have HB1 := hid (HB0.out.trans (hb1.mono HB0.out.size))
  obtain ⟨ba, oa, rfl, hat⟩ := hfd.at
  obtain ⟨b2, o2, cl, rl⟩ := hat n (Nat.le_refl n)
  rw [Nat.sub_self, Nat.pow_zero] at cl rl
  have cl0 := rl 0 (by omega)
  rw [Nat.add_zero] at cl0
  obtain ⟨vv, hvv⟩ : ∃ vv, fdQ f g n n 0 = vv := ⟨_, rfl⟩
  rw [hvv] at cl0
  have HVV := hid hvv
  clear hfd hb1 hat rl HB0 HZ0 hvv HVA HAP HFO
  have n0 : (0 : Int) ≤ (n : Int) := by omega
  have n2 : (n : Int) < ((n + 1 : Nat) : Int) := by omega
  have n3 : (n : Int) < (n : Int) + 1 := by omega
  have hm1 := run_make_row' (P := Tryz.prog) 22 31 (.int .u64 0) 8 Tryz.underlying22 Tryz.infoM rfl .i64 .i64 n (by omega) (by omega)
  have hm2 := run_make_looks m (by omega)
  go_wp2_with fail
  go_cut [11] (fun a11 wx => ∃ X RB LB : Nat, a11 = .pointer (some ⟨X, 0, none⟩) ∧ Hid (OpM W1 wx X RB LB n m vv (fun _ => 0)))
  case first =>
    go_region_held3 (fun W => W.cell? ⟨ba, oa + n, none⟩ = some (.slice (some ⟨b2, o2, none⟩) 1 (C n)) ∧ W.cell? ⟨b2, o2, none⟩ = some (.int .u64 vv)) (first | assumption | exact ⟨cl, cl0⟩ | (refine ⟨?_, ?_⟩ <;> (try with_reducible refine cellD ?_) <;> first | with_reducible exact cl | with_reducible exact cl0 | (with_reducible refine keepC (bel_new _ _) ?_; first | with_reducible exact cl | with_reducible exact cl0 | (with_reducible refine keepC (bel_new _ _) ?_; first | with_reducible exact cl | with_reducible exact cl0 | (with_reducible refine keepC (bel_new _ _) ?_; first | with_reducible exact cl | with_reducible exact cl0))))) (fail)
    all_goals (go_wp2_with fail)
    all_goals go_meet
    all_goals first
      | exact ⟨_, _, _, rfl, hid (OpM.of3 (heap_2 _ _ _ _) (heap_0 _ _ _ _) (heap_1 _ _ _ _) (by omega) (by omega))⟩
      | exact ⟨_, _, _, rfl, hid (OpM.of3 (heap_2 _ _ _ _) (heap_1 _ _ _ _) (heap_0 _ _ _ _) (by omega) (by omega))⟩
      | exact ⟨_, _, _, rfl, hid (OpM.of3 (heap_1 _ _ _ _) (heap_0 _ _ _ _) (heap_2 _ _ _ _) (by omega) (by omega))⟩
      | exact ⟨_, _, _, rfl, hid (OpM.of3 (heap_1 _ _ _ _) (heap_2 _ _ _ _) (heap_0 _ _ _ _) (by omega) (by omega))⟩
      | exact ⟨_, _, _, rfl, hid (OpM.of3 (heap_0 _ _ _ _) (heap_1 _ _ _ _) (heap_2 _ _ _ _) (by omega) (by omega))⟩
      | exact ⟨_, _, _, rfl, hid (OpM.of3 (heap_0 _ _ _ _) (heap_2 _ _ _ _) (heap_1 _ _ _ _) (by omega) (by omega))⟩
  case rest =>
    obtain ⟨X, RB, LB, rfl, HM⟩ := hcut
    clear hm1 hm2 cl cl0 n2 n3
    have s1 : (1 : Int) ≤ (n : Int) + 1 := by omega
    have s2 : (1 : Int) ≤ ((n + 1 : Nat) : Int) := by omega
    have s3 : n + 1 - 1 = n := by omega
    have s4 : (n : Int) + 1 ≤ (c : Int) := by omega
    have s5 : ¬ c = 1 := by omega
    go_wp2_with fail
    go_loopg [58] n (fun q x58 ws => ∃ t : Nat, t ≤ n ∧ q = n - t ∧ x58 = .int .i64 (t : Int) ∧ Hid (OpM W1 ws X RB LB n m vv (fun j => if j < t then oR f g n j else 0)))
    case atStart => exact ⟨0, by omega, rfl, rfl, HM⟩
    case round =>
      clear HM
      obtain ⟨t, htn, rfl, rfl, HM⟩ := hrel
      by_cases hlt : t < n
      · obtain ⟨b', o', e', hat⟩ := (HFD.out.kept HM.out.bel).at
        injection e' with e'; injection e' with e1 e2
        subst e1; subst e2
        obtain ⟨bk, ok, ck, rk⟩ := hat (t + 1) (by omega)
        have HRT := hid (fun W (h : Below wr.heap.size wr W) => troot_any (n - (t + 1)) (2 ^ (n - (t + 1))) bk ok (C (t + 1)) (fdQ f g n (t + 1)) W (by omega) rfl (HT.out.kept (HB1.out.trans ((HM.out.bel.trans (h.mono HM.out.bel.size)).mono HB1.out.size)) HT.out.1) (rk.kept h (rk.lt (Nat.two_pow_pos _))) (fdQ_nums f g n (t + 1) HR.out.2))
        have hor : rootQ (n - (t + 1)) (fdQ f g n (t + 1)) = oR f g n t := by unfold oR; rw [show n - 1 - t = n - (t + 1) from by omega]
        rw [hor] at HRT
        obtain ⟨L, hL⟩ : ∃ L, 2 ^ (n - (t + 1)) = L := ⟨_, rfl⟩
        rw [hL] at ck HRT
        obtain ⟨y, hy⟩ : ∃ y, oR f g n t = y := ⟨_, rfl⟩
        rw [hy] at HRT
        have HY := hid hy
        rw [show oa + (t + 1) = oa + 1 + t from by omega] at ck
        generalize C (t + 1) = cc at ck HRT
        have x0 := HM.out.box.c.c0
        have r0 := HM.out.rr t hlt
        have r1 := HM.out.rf t hlt
        rw [Nat.zero_add] at r0 r1
        rw [if_neg (Nat.lt_irrefl t)] at r0
        have hXl : X < wr.heap.size := World.block_lt_of_cell? wr _ x0
        have hRl := HM.out.lt.1
        have hne := HM.out.ne.1
        have t0 : (0 : Int) ≤ (t : Int) := by omega
        have t1 : (t : Int) < (n : Int) := by omega
        clear hat rk hor hL hy
        have HXS : Hid (∀ W : World, W.cell? ⟨X, 0, none⟩ = some (.slice (some ⟨RB, 0, none⟩) n n) → ∀ v, (W.setCell ⟨RB, t, none⟩ v).cell? ⟨X, 0, none⟩ = some (.slice (some ⟨RB, 0, none⟩) n n)) := hid (fun W h v => by rw [World.cell?_setCell_other _ _ _ _ (by intro e; simp only [Addr.mk.injEq] at e; exact hne e.1.symm)]; exact h)
        clear hne
        go_wp2_with fail
        go_region_held3 (fun W => W.cell? ⟨X, 0, none⟩ = some (.slice (some ⟨RB, 0, none⟩) n n)) (first | assumption | exact x0 | exact HX1.out | exact HXS.out _ HX1.out _) (first | (go_at_call 30; refine (HRT.out _ (by first | exact Below.refl _ _ | exact (Below.refl _ wr).drew)).mono ?_; rintro e w1 ⟨rfl, hb⟩; have hb2 : Below wr.heap.size wr w1 := (by first | exact hb | exact (Below.refl _ wr).drew.trans hb); clear hb; have r2 := (hb2.cell (p := ⟨RB, t, none⟩) hRl).trans r0; have r3 := (hb2.frozen (p := ⟨RB, t, none⟩) hRl).trans r1; have HX1 := hid ((hb2.cell (p := ⟨X, 0, none⟩) hXl).trans x0); have HM1 := hid (HM.out.kept hb2); clear hb2))
        have HM2 : Hid (OpM W1 (w1.setCell ⟨RB, t, none⟩ (.int .u64 y)) X RB LB n m vv (fun j => if j < t + 1 then oR f g n j else 0)) := hid (HM1.out.putR hlt y _ (fun j _ => lev_step (oR f g n) t j y HY.out.symm))
        go_wp2_with fail
        go_roundg (n - (t + 1))
        case measure => go_light; omega
        case rel => exact ⟨t + 1, by omega, rfl, by go_num, (by first | exact HM2 | exact hid HM2.out.drew)⟩
      · have e : t = n := by omega
        subst e
        have x2 := HM.out.box.c.c2
        have HPM : Hid (Row wr RB 0 t (oR f g t)) := hid (HM.out.rr.congr fun j hj => by rw [if_pos hj])
        have HLT := hid (HM.out.looks (fun _ => 0) (fun _ => 0))
        go_wp2_with fail
        clear x2
        go_loopg [76] m (fun q x76 ws => ∃ (k : Nat) (pb tb : Nat → Nat), k ≤ m ∧ q = m - k ∧ x76 = .int .i64 (k : Int) ∧ Hid (LkT W1 ws X RB LB t m k vv (fun j => if j < t then oR f g t j else 0) pb tb))
        case atStart => exact ⟨0, _, _, by omega, rfl, rfl, HLT⟩
        case round =>
          clear HLT HM HPM
          obtain ⟨k, pb, tb, hkm, rfl, rfl, HK⟩ := hrel
          by_cases hkl : k < m
          · have x2 := HK.out.box.c2
            obtain ⟨l0, l1⟩ := HK.out.todo k (Nat.le_refl _) hkl
            have f0 := HK.out.fl (2 * k) (by omega)
            have f1 := HK.out.fl (2 * k + 1) (by omega)
            rw [Nat.mul_comm 2 k] at l0 l1 f0 f1
            have hXl := HK.out.lt.1
            have hLl := HK.out.lt.2.2
            have hm1 := run_make_prs t (by omega)
            have hm2 := run_make_pts t (by omega)
            have k0 : (0 : Int) ≤ (k : Int) := by omega
            have k1 : (k : Int) < (m : Int) := by omega
            have HXS : Hid (∀ W : World, W.cell? ⟨X, 2, none⟩ = some (.slice (some ⟨LB, 0, none⟩) m m) → ∀ u v, ((W.setCell ⟨LB, k * 2, none⟩ u).setCell ⟨LB, k * 2 + 1, none⟩ v).cell? ⟨X, 2, none⟩ = some (.slice (some ⟨LB, 0, none⟩) m m)) := hid (fun W h u v => by
              rw [World.cell?_setCell_other _ _ _ _ (by intro e; simp only [Addr.mk.injEq] at e; exact HK.out.ne.2.1 e.1.symm), World.cell?_setCell_other _ _ _ _ (by intro e; simp only [Addr.mk.injEq] at e; exact HK.out.ne.2.1 e.1.symm)]; exact h)
            have la : ∀ x y : Obj, ((wr.alloc x).alloc y).cell? ⟨LB, k * 2, none⟩ = some (.slice none 0 0) := fun x y => keepC (bel_new _ _) (keepC (bel_new _ _) l0)
            have lb : ∀ x y : Obj, ((wr.alloc x).alloc y).cell? ⟨LB, k * 2 + 1, none⟩ = some (.slice none 0 0) := fun x y => keepC (bel_new _ _) (keepC (bel_new _ _) l1)
            have fa : ∀ x y : Obj, ((wr.alloc x).alloc y).frozen? ⟨LB, k * 2, none⟩ = false := fun x y => ((bel_new _ y).frozen (p := ⟨LB, k * 2, none⟩) (by simp; omega)).trans (((bel_new _ x).frozen (p := ⟨LB, k * 2, none⟩) hLl).trans f0)
            have fb : ∀ x y : Obj, ((wr.alloc x).alloc y).frozen? ⟨LB, k * 2 + 1, none⟩ = false := fun x y => ((bel_new _ y).frozen (p := ⟨LB, k * 2 + 1, none⟩) (by simp; omega)).trans (((bel_new _ x).frozen (p := ⟨LB, k * 2 + 1, none⟩) hLl).trans f1)
            have HXA : Hid (∀ x y : Obj, ((wr.alloc x).alloc y).cell? ⟨X, 2, none⟩ = some (.slice (some ⟨LB, 0, none⟩) m m)) := hid (fun x y => keepC (bel_new _ _) (keepC (bel_new _ _) x2))
            go_wp2_with fail
            go_region_held3 (fun W => W.cell? ⟨X, 2, none⟩ = some (.slice (some ⟨LB, 0, none⟩) m m)) (first | assumption | exact x2 | (with_reducible refine cellD ?_; with_reducible refine keepC (bel_new _ _) ?_; with_reducible refine keepC (bel_new _ _) ?_; with_reducible exact HXS.out _ x2 _ _) | (with_reducible refine cellD ?_; first | with_reducible exact x2 | (with_reducible refine keepC (bel_new _ _) ?_; with_reducible exact x2) | with_reducible exact HXA.out _ _ | with_reducible exact HXS.out _ (HXA.out _ _) _ _) | (with_reducible refine keepC (bel_new _ _) ?_; with_reducible exact x2) | with_reducible exact HXA.out _ _ | with_reducible exact HXS.out _ (HXA.out _ _) _ _) (fail)
            all_goals (go_wp2_with fail)
            all_goals (go_roundg (m - (k + 1)))
            all_goals first | (go_light; omega) | skip
            all_goals first
              | exact ⟨k + 1, _, _, by omega, rfl, by go_num, hid ((HK.out.next2 hkl (heap2_0 _ _ _) (heap2_1 _ _ _) (Nat.le_refl _) (by omega) (by omega)).drew)⟩
              | exact ⟨k + 1, _, _, by omega, rfl, by go_num, hid ((HK.out.next2 hkl (heap2_1 _ _ _) (heap2_0 _ _ _) (by omega) (Nat.le_refl _) (by omega)).drew)⟩
          · have e : k = m := by omega
            subst e
            have HLM := hid HK.out.all
            have s6 : (0 : Int) ≤ (t : Int) := by omega
            have s7 : (t : Int) ≤ (c : Int) := by omega
            have HSL : Hid (∀ c, LkM.S k pb tb c → W1.heap.size ≤ c ∧ c < wr.heap.size) := hid (fun c ⟨q, hq, h⟩ => by rcases h with rfl | rfl; exact ⟨(HK.out.hi q hq).1, (HK.out.hi q hq).2.2.1⟩; exact ⟨(HK.out.hi q hq).2.1, (HK.out.hi q hq).2.2.2⟩)
            have HXS : Hid (¬ LkM.S k pb tb X ∧ ¬ LkM.S k pb tb RB) := hid ⟨fun ⟨q, hq, h⟩ => by have := HK.out.far q hq; rcases h with h | h <;> omega, fun ⟨q, hq, h⟩ => by have := HK.out.far q hq; rcases h with h | h <;> omega⟩
            have HT0 : Hid (Told3 W1.heap.size wr (LkM.S k pb tb) f g t k 0 pl (fun _ _ _ => 0) (fun _ _ _ => .slice none 0 0)) := hid (fun k' i' e' _ h => absurd h (by omega))
            go_wp2_with fail
            obtain ⟨wL, rfl⟩ : ∃ x, x = wr := ⟨wr, rfl⟩
            go_loopg [93] t (fun q x93 ws => ∃ (i : Nat) (pv : Nat → Nat → Nat → Int) (tv : Nat → Nat → Nat → Value), i ≤ t ∧ q = t - i ∧ x93 = .int .i64 (i : Int) ∧ Hid (LkM ws W1.heap.size LB t k pb tb pv tv) ∧ Hid (ButS (LkM.S k pb tb) wL ws) ∧ Hid (Told3 W1.heap.size ws (LkM.S k pb tb) f g t k i pl pv tv))
            case atStart => exact ⟨0, _, _, by omega, rfl, rfl, HLM, hid (ButS.refl _ _), HT0⟩
            case round =>
              clear HLM HT0
              obtain ⟨i, pv, tv, hit, rfl, rfl, HM, HS, HD⟩ := hrel
              have hE1 : Below W1.heap.size W1 wr := HK.out.bel.trans (HS.out.below (fun c hc => (HSL.out c hc).1) HK.out.bel.size)
              have hW : Below w.heap.size w wr := HB1.out.trans (hE1.mono HB1.out.size)
              have x0 := HS.out.cell HK.out.box.c0 HXS.out.1
              have x1 := HS.out.cell HK.out.box.c1 HXS.out.1
              have x2 := HS.out.cell HK.out.box.c2 HXS.out.1
              by_cases hlt2 : i < t
              · obtain ⟨b', o', e', hat⟩ := HFD.out.at
                injection e' with e'; injection e' with e1 e2
                subst e1; subst e2
                obtain ⟨bk, ok, ck, rk⟩ := hat i (by omega)
                have hbl := rk.lt (Nat.two_pow_pos _)
                have ck := (hE1.cell (p := ⟨ba, oa + i, none⟩) (World.block_lt_of_cell? W1 _ ck)).trans ck
                have rk := rk.kept hE1 hbl
                have HLI := hid (lookInto_ok W1.heap.size LB t k i (t - i) (hfQ t i) (2 ^ (t - i)) bk ok (C i) cpl apl pb tb pv tv (fdQ f g t i) pl wr hlt2 (by omega) (by omega) rfl (hfQ_all hlt2).symm m32 (HT.out.kept hW HT.out.1) rk (fdQ_nums f g t i HR.out.2) (HI.out.kept hW) (fun j hj => by have h1 := HPL.out.2 j hj; have h2 := hfQ_le (k := 0) n8; dsimp only at h1; omega) HM.out (fun h => by have := (HSL.out _ h).1; omega))
                obtain ⟨L, hL⟩ : ∃ L, 2 ^ (t - i) = L := ⟨_, rfl⟩
                rw [hL] at ck HLI
                generalize C i = cc at ck HLI
                have HSz : Hid (W1.heap.size ≤ wr.heap.size ∧ ∀ c, LkM.S k pb tb c → c < wr.heap.size) := hid ⟨hE1.size, fun c hc => Nat.lt_of_lt_of_le (HSL.out c hc).2 HS.out.size⟩
                have i0 : (0 : Int) ≤ (i : Int) := by omega
                have i1 : (i : Int) < (t : Int) := by omega
                clear hat rk hL hE1 hW hbl x0 x1
                go_wp2_with (go_at_call 52; refine (HLI.out).mono ?_; rintro e w9 ⟨rfl, a, hlm, hbs, hrow⟩; have HLM9 := hid hlm; have HBS9 := hid hbs; have HRW9 := hid hrow; clear hlm hbs hrow)
                go_roundg (t - (i + 1))
                case measure => go_light; omega
                case rel => exact ⟨i + 1, _, _, by omega, rfl, by go_num, HLM9, hid (HS.out.trans HBS9.out), hid (HD.out.next HSz.out.1 HBS9.out HSz.out.2 HRW9.out)⟩
              · have e : i = t := by omega
                subst e
                have hX0 : X0 < W1.heap.size := World.block_lt_of_cell? W1 _ HZ1.out.c.c0
                have HZ := hid ((hE1.cell (p := ⟨X0, 0, none⟩) hX0).trans HZ1.out.c.c0)
                have z0 := (hE1.cell (p := ⟨X0, 0, none⟩) hX0).trans HZ1.out.c.c0
                have z1 := (hE1.cell (p := ⟨X0, 1, none⟩) hX0).trans HZ1.out.c.c1
                have z2 := (hE1.cell (p := ⟨X0, 2, none⟩) hX0).trans HZ1.out.c.c2
                have y0 := (hE1.frozen (p := ⟨X0, 0, none⟩) hX0).trans (HZ1.out.f 0 (by omega))
                have y1 := (hE1.frozen (p := ⟨X0, 1, none⟩) hX0).trans (HZ1.out.f 1 (by omega))
                have y2 := (hE1.frozen (p := ⟨X0, 2, none⟩) hX0).trans (HZ1.out.f 2 (by omega))
                have HRR : Hid (Row wr RB 0 i (oR f g i)) := hid (fun j hj => HS.out.cell (by have := HK.out.rr j hj; rw [if_pos hj] at this; exact this) HXS.out.2)
                have HRF : Hid (Free wr RB 0 i) := hid (fun j hj => (World.frozen?_of_block (HS.out.block RB HK.out.lt.2.1 HXS.out.2)).trans (HK.out.rf j hj))
                have HHX := hid hX0
                have HHW := hid hW
                clear hE1 hW hX0
                go_wp2_with fail
                have hsb := setB3 (p := .slice (some ⟨RB, 0, none⟩) i i) (q := .int .u64 vv) (r := .slice (some ⟨LB, 0, none⟩) k k) z0 z1 z2
                have hbut : ButS (fun c => c = X0) wr (((wr.setCell ⟨X0, 0, none⟩ (.slice (some ⟨RB, 0, none⟩) i i)).setCell ⟨X0, 1, none⟩ (.int .u64 vv)).setCell ⟨X0, 2, none⟩ (.slice (some ⟨LB, 0, none⟩) k k)) := but_set3 wr X0 _ _ _
                refine bodyPost_ret (results_opn rfl rfl hsb.c0 hsb.c1 hsb.c2) rfl ?_
                refine ⟨RB, LB, _, by rw [HVV.out]; rfl, fun j hj => hbut.cell (HRR.out j hj) ?_, (HM.out.but hbut HHX.out).opened (HD.out.but hbut HHX.out), ?_, (HM.out.but hbut HHX.out).owns (HD.out.but hbut HHX.out) HB1.out.size (Nat.le_trans HB1.out.size HK.out.lo.2.1) (fun j hj => by rw [World.frozen?_setCell, World.frozen?_setCell, World.frozen?_setCell]; exact HRF.out j hj)⟩
                · have h1 := HK.out.lo.2.1
                  have h2 := HHX.out
                  show ¬ RB = X0
                  omega
                · have h1 := HX0.out
                  exact ((HHW.out.setCell (by show w.heap.size ≤ X0; omega) _).setCell (by show w.heap.size ≤ X0; omega) _).setCell (by show w.heap.size ≤ X0; omega) _

theorem open_ok (n N b off cap cp m cpl : Nat) (ap apl : Option Addr) (f g : Nat → Int) (pl : Nat → Nat) (w : World) (n1 : 1 ≤ n) (n8 : n ≤ 8) (hN : N = 2 ^ n) (ht : Tab w) (hr : Row w b off N f) (hv : Nums f) (hp : PRow w ap n g) (hg : Nums g) (hi : IRowP w apl m fun j => (pl j : Int)) (hpl : plOk m n fun j => (pl j : Int)) :
    Calls Tryz.prog 18 #[.slice (some ⟨b, off, none⟩) N cap, .slice ap n cp, .slice apl m cpl] w fun e w' => ∃ rb lb mm, e = .returned (.tuple #[.agg #[.slice (some ⟨rb, 0, none⟩) n n, .int .u64 (fdQ f g n n 0), .slice (some ⟨lb, 0, none⟩) m m], .int .i64 0]) ∧ Row w' rb 0 n (oR f g n) ∧ OpRow w' (some ⟨lb, 0, none⟩) (rightO f g n m pl) mm ∧ Below w.heap.size w w' :=
  (open_own n N b off cap cp m cpl ap apl f g pl w n1 n8 hN ht hr hv hp hg hi hpl).mono fun e w' ⟨rb, lb, mm, h1, h2, h3, h4, _⟩ => ⟨rb, lb, mm, h1, h2, h3, h4⟩

end Go.Proofs.YtbchbmelofojkaaGreatDoor

/-
  What the laws of package open have in common: Look of the right opening; lists of places that are appended to; a contract of Look of the right opening with its looks turned.
-/
namespace Go.Proofs.YtbchbmelofojkaaGreatDoor
open Go.RowKit
set_option linter.unusedVariables false
attribute [local go_sem ↓] Go.wp_at_zero Go.wp_at_succ

theorem lit2 (w : World) (x y : Int) (t : TypeId) : Row (w.alloc (.cells #[.int .u64 x, .int .u64 y] t)) w.heap.size 0 2 (fun j => if j = 0 then x else y) := fun j hj => by
  rw [Nat.zero_add, World.cell?_alloc_new]
  match j, hj with
  | 0, _ => rfl
  | 1, _ => rfl
theorem lit1 (w : World) (x : Int) (t : TypeId) : PRow (w.alloc (.cells #[.int .u64 x] t)) (some ⟨w.heap.size, 0, none⟩) 1 (fun _ => x) := PRow.of fun j hj => by
  rw [Nat.zero_add, World.cell?_alloc_new]
  match j, hj with
  | 0, _ => rfl
theorem plOk_of {m n : Nat} {pl : Nat → Nat} (hm : m ≤ 32) (h : ∀ j, j < m → pl j < hfQ n 0) : plOk m n (fun j => (pl j : Int)) := ⟨hm, fun j hj => ⟨by dsimp only; omega, by have := h j hj; dsimp only; omega⟩⟩
theorem two_lits (w : World) : Below w.heap.size w ((w.alloc (.cells #[.int .u64 2] 31)).alloc (.cells #[.int .i64 0] 3)) ∧ PRow ((w.alloc (.cells #[.int .u64 2] 31)).alloc (.cells #[.int .i64 0] 3)) (some ⟨w.heap.size, 0, none⟩) 1 (fun _ => (2 : Int)) ∧ IRowP ((w.alloc (.cells #[.int .u64 2] 31)).alloc (.cells #[.int .i64 0] 3)) (some ⟨w.heap.size + 1, 0, none⟩) 1 (fun j => (((fun _ => 0) j : Nat) : Int)) := by
  have b1 := bel_new w (.cells #[.int .u64 2] 31)
  have b2 := bel_new (w.alloc (.cells #[.int .u64 2] 31)) (.cells #[.int .i64 0] 3)
  have hs1 : (w.alloc (.cells #[.int .u64 2] 31)).heap.size = w.heap.size + 1 := by simp
  exact ⟨b1.trans (b2.mono b1.size), (lit1 w 2 31).kept b2, by rw [← hs1]; exact IRowP.one (w.alloc (.cells #[.int .u64 2] 31)) 0 3⟩
/-- Look of the right opening. -/
theorem look_held (n m cp cpl cl rb : Nat) (ap apl al : Option Addr) (root : Int) (f g : Nat → Int) (pl : Nat → Nat) (mm : OM) (w : World) (n1 : 1 ≤ n) (n8 : n ≤ 8) (hm : m ≤ 32) (hpl : ∀ j, j < m → pl j < hfQ n 0) (hroot : root = rootQ n f) (hg : PRow w ap n g) (hgv : Nums g) (hp : IRowP w apl m fun j => (pl j : Int)) (hR : Row w rb 0 n (oR f g n)) (ho : OpRow w al (rightO f g n m pl) mm) :
    Calls Tryz.prog 35 #[.int .u64 root, .slice ap n cp, .slice apl m cpl, .agg #[.slice (some ⟨rb, 0, none⟩) n n, .int .u64 (fdQ f g n n 0), .slice al m cl]] w fun e w' => e = .returned (.tuple #[.bool true, .int .i64 0]) ∧ Below w.heap.size w w' := by
  have hr := rootQ_rng n f
  obtain ⟨q, rfl⟩ : ∃ q, n = q + 1 := ⟨n - 1, by omega⟩
  have hv := fdQ_rng f g (q + 1) q 0
  refine (look_any (q + 1) m cp cpl (q + 1) (q + 1) m cl ap apl (some ⟨rb, 0, none⟩) al root (fdQ f g (q + 1) (q + 1) 0) g (fun j => (pl j : Int)) (oR f g (q + 1)) (rightO f g (q + 1) m pl) mm w (by unfold maxLen; omega) (by unfold maxLen; omega) rfl (by omega) (by omega) hv.1 (by omega) hg hgv hp (PRow.of hR) (fun j => by have := rootQ_rng (q + 1 - 1 - j) (fdQ f g (q + 1) (j + 1)); unfold oR; omega) ho (rightO_nums _ _ _ _ _)).mono ?_
  rintro e w' ⟨r, x, rfl, hout, hb⟩
  have hA : argOk (q + 1) m (fun j => (pl j : Int)) := ⟨n1, n8, plOk_of hm hpl⟩
  have hF : ofmQ (q + 1) (q + 1) m (rightO f g (q + 1) m pl) := ⟨rfl, rfl, rightO_form _ _ _ _ _⟩
  rcases hout with ⟨h, _⟩ | ⟨_, h, _⟩ | ⟨_, _, hr1, hx⟩
  · exact absurd hA h
  · exact absurd hF h
  · have e : (fun j => ((fun j => ((pl j : Nat) : Int)) j).toNat) = pl := by funext j; simp
    rw [e, hroot, right_looks f g (q + 1) m pl n1] at hr1
    rw [hr1, hx]
    exact ⟨rfl, hb⟩
theorem look_right (n m cp cpl lb rb : Nat) (ap apl : Option Addr) (root : Int) (f g : Nat → Int) (pl : Nat → Nat) (mm : OM) (w : World) (n1 : 1 ≤ n) (n8 : n ≤ 8) (hm : m ≤ 32) (hpl : ∀ j, j < m → pl j < hfQ n 0) (hroot : root = rootQ n f) (hg : PRow w ap n g) (hgv : Nums g) (hp : IRowP w apl m fun j => (pl j : Int)) (hR : Row w rb 0 n (oR f g n)) (ho : OpRow w (some ⟨lb, 0, none⟩) (rightO f g n m pl) mm) :
    Calls Tryz.prog 35 #[.int .u64 root, .slice ap n cp, .slice apl m cpl, .agg #[.slice (some ⟨rb, 0, none⟩) n n, .int .u64 (fdQ f g n n 0), .slice (some ⟨lb, 0, none⟩) m m]] w fun e w' => e = .returned (.tuple #[.bool true, .int .i64 0]) ∧ Below w.heap.size w w' :=
  look_held n m cp cpl m rb ap apl (some ⟨lb, 0, none⟩) root f g pl mm w n1 n8 hm hpl hroot hg hgv hp hR ho
/-- Places as the cells of a row. -/
def plV (pl : Nat → Nat) (t : Nat) : List Value := (List.range t).map fun j => Value.int .i64 ((pl j : Nat) : Int)
theorem plV_at (pl : Nat → Nat) (t j : Nat) (h : j < t) : (plV pl t)[j]? = some (.int .i64 ((pl j : Nat) : Int)) := by simp [plV, h]
theorem plV_snoc (pl : Nat → Nat) (t q : Nat) (h : pl t = q) : plV pl t ++ [.int .i64 (q : Int)] = plV pl (t + 1) := by
  unfold plV
  rw [List.range_succ, List.map_append, ← h]; rfl
theorem pl_own {w : World} {base : Nat} {v : Value} {t : Nat} {pl : Nat → Nat} (h : w.ownsRow base 3 1 v t (plV pl t)) : ∃ ao c, v = .slice ao t c ∧ t ≤ c ∧ IRowP w ao t (fun j => ((pl j : Nat) : Int)) := by
  rcases h.2 with ⟨rfl, h0⟩ | ⟨g, cap, cur, rfl, hb, _, hle, _⟩
  · exact ⟨none, 0, by rw [h0], by omega, fun h1 => by omega⟩
  · exact ⟨some ⟨g, 0, none⟩, cap, rfl, hle, fun _ => ⟨g, 0, rfl, fun j hj => by rw [Nat.zero_add, h.cellAt j (by omega), plV_at pl t j hj]⟩⟩
theorem inews (w : World) (x : Int) (t : TypeId) : ∀ j u, [Value.int .i64 x][j]? = some u → (w.alloc (.cells #[.int .i64 x] t)).cell? ((⟨w.heap.size, 0, none⟩ : Addr).add j) = some u := by
  intro j u hj
  match j, hj with
  | 0, hj => simp at hj; subst hj; simp [Addr.add]
theorem ione (x : Int) : ∀ u ∈ [Value.int .i64 x], u.oneCell' = true := by intro u hu; simp at hu; subst hu; rfl
/-- One place more. -/
theorem pl_next {w0 w w6 : World} {base g c t q : Nat} {v : Value} {pl : Nat → Nat} {ob : Obj} (hb : Below base w0 w) (hs : base ≤ w0.heap.size) (h : w.ownsRow base 3 1 v t (plV pl t)) (hq : pl t = q) (ho : w6.ownsRow base 3 1 (.slice (some ⟨g, 0, none⟩) (t + 1) c) (t + 1) (plV pl t ++ [.int .i64 (q : Int)])) (hg : (w.alloc ob).grownBy w6 v.ownBlock) :
    w6.ownsRow base 3 1 (.slice (some ⟨g, 0, none⟩) (t + 1) c) (t + 1) (plV pl (t + 1)) ∧ Below base w0 w6 := by
  have hs1 : base ≤ w.heap.size := Nat.le_trans hs hb.size
  refine ⟨by rw [plV_snoc pl t q hq] at ho; exact ho, (hb.alloc hs1 ob).grown hg (by simp; omega) (fun k hk => (World.ownsRow.lt h k hk).1)⟩

end Go.Proofs.YtbchbmelofojkaaGreatDoor

/-
  Contracts of slices.Clone and slices.Reverse at places and at looks: a new row with the same; the row turned, nothing else written.
-/
namespace Go.Proofs.YtbchbmelofojkaaGreatDoor
open Go.RowKit
set_option linter.unusedVariables false
attribute [local go_sem ↓] Go.wp_at_zero Go.wp_at_succ

/-- N cells u in block g, from base on, that may be written. -/
structure RV (w : World) (base g N : Nat) (u : Nat → Value) : Prop where
  lo : base ≤ g
  c : ∀ j, j < N → w.cell? ⟨g, j, none⟩ = some (u j)
  f : ∀ j, j < N → w.frozen? ⟨g, j, none⟩ = false
theorem RV.kept {w w' : World} {base g N : Nat} {u : Nat → Value} (h : RV w base g N u) (hb : Below w.heap.size w w') : RV w' base g N u :=
  ⟨h.lo, fun j hj => keepC hb (h.c j hj), fun j hj => (hb.frozen (p := ⟨g, j, none⟩) (World.block_lt_of_cell? w _ (h.c j hj))).trans (h.f j hj)⟩
theorem RV.drew {w : World} {base g N : Nat} {u : Nat → Value} (h : RV w base g N u) : RV w.drew base g N u := ⟨h.lo, h.c, h.f⟩
theorem RV.put {w : World} {base g N : Nat} {u : Nat → Value} (h : RV w base g N u) {i : Nat} (hi : i < N) (x : Value) : RV (w.setCell ⟨g, i, none⟩ x) base g N (fun j => if j = i then x else u j) := by
  refine ⟨h.lo, fun j hj => ?_, fun j hj => by rw [World.frozen?_setCell]; exact h.f j hj⟩
  by_cases e : j = i
  · subst e
    rw [World.cell?_setCell_same _ _ _ (h.c j hj), if_pos rfl]
  · rw [World.cell?_setCell_other _ _ _ _ (by intro e2; simp only [Addr.mk.injEq] at e2; exact e e2.2.1.symm), if_neg e]
    exact h.c j hj
theorem RV.congr {w : World} {base g N : Nat} {u v : Nat → Value} (h : RV w base g N u) (e : ∀ j, j < N → u j = v j) : RV w base g N v := ⟨h.lo, fun j hj => by rw [← e j hj]; exact h.c j hj, h.f⟩
/-- Turned as far as t. -/
def revT {α : Type} (n t : Nat) (u : Nat → α) (j : Nat) : α := if j < t ∨ n - t ≤ j then u (n - 1 - j) else u j
theorem revT_zero {α : Type} (n : Nat) (u : Nat → α) (j : Nat) (h : j < n) : revT n 0 u j = u j := by unfold revT; rw [if_neg (by omega)]
theorem revT_all {α : Type} (n t : Nat) (u : Nat → α) (ht : n ≤ 2 * t + 1) (j : Nat) (h : j < n) : revT n t u j = u (n - 1 - j) := by
  unfold revT
  by_cases h1 : j < t ∨ n - t ≤ j
  · rw [if_pos h1]
  · rw [if_neg h1]; congr 1; omega
theorem revT_step {α : Type} (n t s : Nat) (u : Nat → α) (hs : s = n - 1 - t) (ht : t < s) (j : Nat) (h : j < n) : (if j = s then u t else if j = t then u s else revT n t u j) = revT n (t + 1) u j := by
  unfold revT
  by_cases h1 : j = s
  · rw [if_pos h1, if_pos (by omega)]; congr 1; omega
  · by_cases h2 : j = t
    · rw [if_neg h1, if_pos h2, if_pos (by omega)]; congr 1; omega
    · rw [if_neg h1, if_neg h2]
      by_cases h3 : j < t ∨ n - t ≤ j
      · rw [if_pos h3, if_pos (by omega)]
      · rw [if_neg h3, if_neg (by omega)]
theorem revT_mid {α : Type} (n t s : Nat) (u : Nat → α) (hs : s = n - 1 - t) (ht : t < s) : revT n t u t = u t ∧ revT n t u s = u s := by
  unfold revT
  exact ⟨by rw [if_neg (by omega)], by rw [if_neg (by omega)]⟩
def intV (p : Nat → Int) (j : Nat) : Value := .int .i64 (p j)
def intsV (p : Nat → Int) (n : Nat) : List Value := (List.range n).map (intV p)
theorem intsV_at (p : Nat → Int) (n j : Nat) (h : j < n) : (intsV p n)[j]? = some (intV p j) := by simp [intsV, h]

set_option maxHeartbeats 1000000 in
set_option maxRecDepth 100000 in
theorem cloneI_any (ao : Option Addr) (n cap : Nat) (p : Nat → Int) (w : World) (hn : n ≤ 1000) (hr : IRowP w ao n p) :
    Calls Tryz.prog 31 #[.slice ao n cap] w fun e w' => ∃ a' g c, e = .returned (.slice a' n c) ∧ w.heap.size ≤ g ∧ (0 < n → a' = some ⟨g, 0, none⟩ ∧ RV w' w.heap.size g n (intV p)) ∧ Below w.heap.size w w' := by
  obtain ⟨i0, hi, hz0, hz1, hz2⟩ := info_parts Tryz.infoJ
  by_cases h0 : 0 < n
  · obtain ⟨b, off, rfl, hc⟩ := hr h0
    have HR := hid hc
    have HB : Hid (b < w.heap.size) := hid (World.block_lt_of_cell? w _ (hc 0 h0))
    clear hr hc
    go_enter Tryz.func31, Tryz.ntmps31
    have hq : ∀ (w : World) (a : Option Addr) (n c n' c' : Nat), (binOp .eql 45 (.slice a n c) (.slice none n' c')).run Tryz.prog w = .ok (.bool a.isNone) w := fun w a n c n' c' => Lib.run_eql_slice_nil w _ _ a n c n' c' Tryz.underlying45
    go_wp2_with (at_builtin; refine wpList_append_lies _ rfl _ _ 45 rfl w.heap.size 3 i0 (.int .i64 0) 1 8 Tryz.underlying45 hi hz0 hz1 hz2 rfl (by decide) _ _ _ rfl (World.ownsRow_made w #[] 0 (Nat.le_refl _) (Nat.zero_le _) rfl) ⟨b, off, none⟩ n cap (intsV p n) rfl ?qc1 ?qc2 ?qc3 ?qc4 ?qc5 ?qc6 ?qc7 (w.heap.size + 1) ?qc8 ?_)
    case qc1 => simp [intsV]
    case qc2 =>
      intro j u hj
      have hjn : j < n := by
        have := (List.getElem?_eq_some_iff.1 hj).1
        simp [intsV] at this; exact this
      rw [intsV_at p n j hjn] at hj
      injection hj with hj
      subst hj
      rw [show (⟨b, off, none⟩ : Addr).add j = ⟨b, off + j, none⟩ from by simp [Addr.add]]
      exact (World.cell?_alloc_lt w _ ⟨b, off + j, none⟩ HB.out).trans (HR.out j hjn)
    case qc3 => intro u hu; simp [intsV] at hu; obtain ⟨j, _, rfl⟩ := hu; rfl
    case qc4 => omega
    case qc5 => unfold maxLen; omega
    case qc6 => omega
    case qc7 => simp
    case qc8 => simp
    intro g c w1 hown hgrow hat hlt
    have HO := hid hown
    have HG := hid hgrow
    clear hown hgrow hat hlt
    go_wp2
    go_ret
    refine ⟨_, g, c, rfl, (World.ownsRow.lt HO.out g rfl).1, fun _ => ⟨rfl, ?_⟩, ((Below.refl _ w).alloc (Nat.le_refl _) _).grown HG.out (by simp) (by intro k hk; simp [Value.ownBlock] at hk; omega)⟩
    have ho := HO.out
    refine ⟨(World.ownsRow.lt ho g rfl).1, fun j hj => ?_, fun j hj => World.ownsRow.frozenAt ho j⟩
    rw [World.ownsRow.cellAt ho j (by omega)]
    exact intsV_at p n j hj
  · obtain rfl : n = 0 := by omega
    cases ao with
    | none =>
      go_enter Tryz.func31, Tryz.ntmps31
      have hq : ∀ (w : World) (a : Option Addr) (n c n' c' : Nat), (binOp .eql 45 (.slice a n c) (.slice none n' c')).run Tryz.prog w = .ok (.bool a.isNone) w := fun w a n c n' c' => Lib.run_eql_slice_nil w _ _ a n c n' c' Tryz.underlying45
      go_wp2
      go_ret
      exact ⟨none, w.heap.size, 0, rfl, Nat.le_refl _, fun h => absurd h (by omega), Below.refl _ _⟩
    | some ad =>
      go_enter Tryz.func31, Tryz.ntmps31
      have hq : ∀ (w : World) (a : Option Addr) (n c n' c' : Nat), (binOp .eql 45 (.slice a n c) (.slice none n' c')).run Tryz.prog w = .ok (.bool a.isNone) w := fun w a n c n' c' => Lib.run_eql_slice_nil w _ _ a n c n' c' Tryz.underlying45
      go_wp2_with (at_builtin; refine wpList_append_empty _ rfl _ _ 45 rfl w.heap.size 3 i0 1 Tryz.underlying45 hi _ 0 [] rfl (World.ownsRow_made w #[] 0 (Nat.le_refl _) (Nat.zero_le _) rfl) (some ad) cap rfl ?_)
      go_wp2
      go_ret
      exact ⟨_, w.heap.size, _, rfl, Nat.le_refl _, fun h => absurd h (by omega), (Below.refl _ w).alloc (Nat.le_refl _) _⟩
set_option maxHeartbeats 2000000 in
set_option maxRecDepth 100000 in
theorem revI_any (ao : Option Addr) (g n cap base : Nat) (p : Nat → Int) (w : World) (hn : n ≤ 1000) (h : 0 < n → ao = some ⟨g, 0, none⟩ ∧ RV w base g n (intV p)) :
    Calls Tryz.prog 32 #[.slice ao n cap] w fun e w' => e = .returned (.tuple #[]) ∧ (0 < n → RV w' base g n (intV fun j => p (n - 1 - j))) ∧ ButS (fun c => c = g) w w' := by
  have HA := hid (fun h0 => (h h0).1)
  have HR0 : Hid (0 < n → RV w base g n (revT n 0 (intV p))) := hid (fun h0 => (h h0).2.congr fun j hj => (revT_zero n _ j hj).symm)
  have wn : IntKind.i64.wrap ((n : Int) - 1) = (n : Int) - 1 := IntWalk.i64_in _ (by omega)
  clear h
  go_enter Tryz.func32, Tryz.ntmps32
  go_wp2_with fail
  go_loopg [2, 3] n (fun q x2 x3 wr => ∃ t : Nat, 2 * t ≤ n ∧ q = n - t ∧ x2 = .int .i64 (t : Int) ∧ x3 = .int .i64 ((n : Int) - 1 - (t : Int)) ∧ Hid (0 < n → RV wr base g n (revT n t (intV p))) ∧ Hid (ButS (fun c => c = g) w wr))
  case atStart => exact ⟨0, by omega, rfl, rfl, by simp, HR0, hid (ButS.refl _ _)⟩
  case round =>
    clear HR0
    obtain ⟨t, htn, rfl, rfl, rfl, HR, HB⟩ := hrel
    by_cases hlt : 2 * t + 1 < n
    · obtain ⟨s, hs⟩ : ∃ s, s = n - 1 - t := ⟨_, rfl⟩
      have hst : t < s := by omega
      have hsn : s < n := by omega
      have hsI : (n : Int) - 1 - (t : Int) = (s : Int) := by omega
      have rv := HR.out (by omega)
      obtain ⟨e1, e2⟩ := revT_mid n t s (intV p) hs hst
      have c0 := rv.c t (by omega)
      have c1 := rv.c s hsn
      rw [e1] at c0
      rw [e2] at c1
      have f0 := rv.f t (by omega)
      have f1 := rv.f s hsn
      have HN : Hid (RV (((wr.setCell ⟨g, t, none⟩ (intV p s))).setCell ⟨g, s, none⟩ (intV p t)) base g n (revT n (t + 1) (intV p))) := hid (((rv.put (i := t) (by omega) (intV p s)).put hsn (intV p t)).congr fun j hj => revT_step n t s (intV p) hs hst j hj)
      have HLO := hid rv.lo
      have hao := HA.out (by omega)
      subst hao
      unfold intV at c0 c1 HN
      generalize p t = pt at c0 HN
      generalize p s = ps at c1 HN
      rw [hsI]
      have t0 : (0 : Int) ≤ (t : Int) := by omega
      have t1 : (t : Int) < (n : Int) := by omega
      have s0 : (0 : Int) ≤ (s : Int) := by omega
      have s1 : (s : Int) < (n : Int) := by omega
      have ts : (t : Int) < (s : Int) := by omega
      clear rv e1 e2 hs
      go_wp2_with fail
      go_region
      all_goals (go_wp2_with fail)
      all_goals (go_roundg (n - (t + 1)))
      all_goals first | (go_light; omega) | skip
      all_goals exact ⟨t + 1, by omega, rfl, by go_num, by go_num, hid (fun _ => HN.out.drew), hid (but_one (but_one HB.out _) _).drew⟩
    · have HE : Hid (0 < n → RV wr base g n (intV fun j => p (n - 1 - j))) := hid (fun h0 => (HR.out h0).congr fun j hj => revT_all n t (intV p) (by omega) j hj)
      have hge : ¬ ((t : Int) < (n : Int) - 1 - (t : Int)) := by omega
      go_wp2_with fail
      go_end0
      exact ⟨rfl, HE.out, HB.out⟩
/-- Looks as cells: two a look. -/
def lkV (a b : Nat → Value) (j : Nat) : Value := if j % 2 = 0 then a (j / 2) else b (j / 2)
def lksV (a b : Nat → Value) (n : Nat) : List Value := (List.range (n * 2)).map (lkV a b)
theorem lksV_at (a b : Nat → Value) (n j : Nat) (h : j < n * 2) : (lksV a b n)[j]? = some (lkV a b j) := by simp [lksV, h]
set_option maxHeartbeats 1000000 in
set_option maxRecDepth 100000 in
theorem cloneL_any (lb n cap : Nat) (a b : Nat → Value) (w : World) (hn : n ≤ 1000) (h1 : ∀ i, i < n → (a i).oneCell' = true ∧ (b i).oneCell' = true) (hr : ∀ i, i < n → w.cell? ⟨lb, 2 * i, none⟩ = some (a i) ∧ w.cell? ⟨lb, 2 * i + 1, none⟩ = some (b i)) :
    Calls Tryz.prog 33 #[.slice (some ⟨lb, 0, none⟩) n cap] w fun e w' => ∃ a' g c, e = .returned (.slice a' n c) ∧ w.heap.size ≤ g ∧ (0 < n → a' = some ⟨g, 0, none⟩ ∧ RV w' w.heap.size g (n * 2) (lkV a b)) ∧ Below w.heap.size w w' := by
  obtain ⟨i0, hi, hz0, hz1, hz2⟩ := info_parts Tryz.infoK
  have hq : ∀ (w : World) (a : Option Addr) (n c n' c' : Nat), (binOp .eql 40 (.slice a n c) (.slice none n' c')).run Tryz.prog w = .ok (.bool a.isNone) w := fun w a n c n' c' => Lib.run_eql_slice_nil w _ _ a n c n' c' Tryz.underlying40
  by_cases h0 : 0 < n
  · have HR : Hid (∀ j, j < n * 2 → w.cell? ⟨lb, j, none⟩ = some (lkV a b j) ∧ (lkV a b j).oneCell' = true) := hid (fun j hj => by
      unfold lkV
      have h2 := hr (j / 2) (by omega)
      have h3 := h1 (j / 2) (by omega)
      by_cases e : j % 2 = 0
      · rw [if_pos e]
        have e2 : 2 * (j / 2) = j := by omega
        rw [e2] at h2
        exact ⟨h2.1, h3.1⟩
      · rw [if_neg e]
        have e2 : 2 * (j / 2) + 1 = j := by omega
        rw [e2] at h2
        exact ⟨h2.2, h3.2⟩)
    have HB : Hid (lb < w.heap.size) := hid (World.block_lt_of_cell? w _ (hr 0 h0).1)
    clear hr h1
    go_enter Tryz.func33, Tryz.ntmps33
    go_wp2_with (at_builtin; refine wpList_append_lies _ rfl _ _ 40 rfl w.heap.size 50 i0 (.agg #[.slice none 0 0, .slice none 0 0]) 2 48 Tryz.underlying40 hi hz0 hz1 hz2 rfl (by decide) _ _ _ rfl (World.ownsRow_made w #[] 0 (Nat.le_refl _) (Nat.zero_le _) rfl) ⟨lb, 0, none⟩ n cap (lksV a b n) rfl ?qc1 ?qc2 ?qc3 ?qc4 ?qc5 ?qc6 ?qc7 (w.heap.size + 1) ?qc8 ?_)
    case qc1 => simp [lksV]
    case qc2 =>
      intro j u hj
      have hjn : j < n * 2 := by
        have := (List.getElem?_eq_some_iff.1 hj).1
        simp [lksV] at this; exact this
      rw [lksV_at a b n j hjn] at hj
      injection hj with hj
      subst hj
      rw [show (⟨lb, 0, none⟩ : Addr).add j = ⟨lb, j, none⟩ from by simp [Addr.add]; exact fun h => h.symm]
      exact (World.cell?_alloc_lt w _ ⟨lb, j, none⟩ HB.out).trans (HR.out j hjn).1
    case qc3 => intro u hu; simp [lksV] at hu; obtain ⟨j, hj, rfl⟩ := hu; exact (HR.out j hj).2
    case qc4 => omega
    case qc5 => unfold maxLen; omega
    case qc6 => omega
    case qc7 => simp
    case qc8 => simp
    intro g c w1 hown hgrow hat hlt
    have HO := hid hown
    have HG := hid hgrow
    clear hown hgrow hat hlt
    go_wp2
    go_ret
    refine ⟨_, g, c, rfl, (World.ownsRow.lt HO.out g rfl).1, fun _ => ⟨rfl, ?_⟩, ((Below.refl _ w).alloc (Nat.le_refl _) _).grown HG.out (by simp) (by intro k hk; simp [Value.ownBlock] at hk; omega)⟩
    have ho := HO.out
    refine ⟨(World.ownsRow.lt ho g rfl).1, fun j hj => ?_, fun j hj => World.ownsRow.frozenAt ho j⟩
    rw [World.ownsRow.cellAt ho j hj]
    exact lksV_at a b n j hj
  · obtain rfl : n = 0 := by omega
    clear hr h1
    go_enter Tryz.func33, Tryz.ntmps33
    go_wp2_with (at_builtin; refine wpList_append_empty _ rfl _ _ 40 rfl w.heap.size 50 i0 2 Tryz.underlying40 hi _ 0 [] rfl (World.ownsRow_made w #[] 0 (Nat.le_refl _) (Nat.zero_le _) rfl) (some ⟨lb, 0, none⟩) cap rfl ?_)
    go_wp2
    go_ret
    exact ⟨_, w.heap.size, _, rfl, Nat.le_refl _, fun h => absurd h (by omega), (Below.refl _ w).alloc (Nat.le_refl _) _⟩
/-- Look i of a row of looks: what a store of it leaves. -/
theorem RV.put2 {w : World} {base g n : Nat} {a b : Nat → Value} (h : RV w base g (n * 2) (lkV a b)) {i : Nat} (hi : i < n) (x y : Value) : RV ((w.setCell ⟨g, i * 2, none⟩ x).setCell ⟨g, i * 2 + 1, none⟩ y) base g (n * 2) (lkV (fun j => if j = i then x else a j) (fun j => if j = i then y else b j)) := by
  refine ((h.put (i := i * 2) (by omega) x).put (i := i * 2 + 1) (by omega) y).congr fun j hj => ?_
  unfold lkV
  dsimp only
  by_cases e : j / 2 = i
  · by_cases e2 : j % 2 = 0
    · rw [if_neg (by omega), if_pos (by omega), if_pos e2, if_pos e]
    · rw [if_pos (by omega), if_neg e2, if_pos e]
  · rw [if_neg (by omega), if_neg (by omega)]
    by_cases e2 : j % 2 = 0
    · rw [if_pos e2, if_pos e2, if_neg e]
    · rw [if_neg e2, if_neg e2, if_neg e]
theorem RV.congr2 {w : World} {base g n : Nat} {a b a' b' : Nat → Value} (h : RV w base g (n * 2) (lkV a b)) (ea : ∀ j, j < n → a j = a' j) (eb : ∀ j, j < n → b j = b' j) : RV w base g (n * 2) (lkV a' b') := h.congr fun j hj => by
  unfold lkV; rw [ea (j / 2) (by omega), eb (j / 2) (by omega)]
theorem RV.at2 {w : World} {base g n : Nat} {a b : Nat → Value} (h : RV w base g (n * 2) (lkV a b)) {i : Nat} (hi : i < n) : w.cell? ⟨g, i * 2, none⟩ = some (a i) ∧ w.cell? ⟨g, i * 2 + 1, none⟩ = some (b i) := by
  have h1 := h.c (i * 2) (by omega)
  have h2 := h.c (i * 2 + 1) (by omega)
  unfold lkV at h1 h2
  rw [if_pos (by omega), show i * 2 / 2 = i from by omega] at h1
  rw [if_neg (by omega), show (i * 2 + 1) / 2 = i from by omega] at h2
  exact ⟨h1, h2⟩
set_option maxHeartbeats 2000000 in
set_option maxRecDepth 100000 in
theorem revL_any (ao : Option Addr) (g n cap base : Nat) (a b : Nat → Value) (w : World) (hn : n ≤ 1000) (hsl : ∀ i, (∃ x l c, a i = .slice x l c) ∧ (∃ x l c, b i = .slice x l c)) (h : 0 < n → ao = some ⟨g, 0, none⟩ ∧ RV w base g (n * 2) (lkV a b)) :
    Calls Tryz.prog 34 #[.slice ao n cap] w fun e w' => e = .returned (.tuple #[]) ∧ (0 < n → RV w' base g (n * 2) (lkV (fun j => a (n - 1 - j)) (fun j => b (n - 1 - j)))) ∧ ButS (fun c => c = g) w w' := by
  have HA := hid (fun h0 => (h h0).1)
  have HR0 : Hid (0 < n → RV w base g (n * 2) (lkV (revT n 0 a) (revT n 0 b))) := hid (fun h0 => (h h0).2.congr2 (fun j hj => (revT_zero n _ j hj).symm) (fun j hj => (revT_zero n _ j hj).symm))
  have wn : IntKind.i64.wrap ((n : Int) - 1) = (n : Int) - 1 := IntWalk.i64_in _ (by omega)
  clear h
  go_enter Tryz.func34, Tryz.ntmps34
  go_wp2_with fail
  go_loopg [2, 3] n (fun q x2 x3 wr => ∃ t : Nat, 2 * t ≤ n ∧ q = n - t ∧ x2 = .int .i64 (t : Int) ∧ x3 = .int .i64 ((n : Int) - 1 - (t : Int)) ∧ Hid (0 < n → RV wr base g (n * 2) (lkV (revT n t a) (revT n t b))) ∧ Hid (ButS (fun c => c = g) w wr))
  case atStart => exact ⟨0, by omega, rfl, rfl, by simp, HR0, hid (ButS.refl _ _)⟩
  case round =>
    clear HR0
    obtain ⟨t, htn, rfl, rfl, rfl, HR, HB⟩ := hrel
    by_cases hlt : 2 * t + 1 < n
    · obtain ⟨s, hs⟩ : ∃ s, s = n - 1 - t := ⟨_, rfl⟩
      have hst : t < s := by omega
      have hsn : s < n := by omega
      have hsI : (n : Int) - 1 - (t : Int) = (s : Int) := by omega
      have rv := HR.out (by omega)
      obtain ⟨ea1, ea2⟩ := revT_mid n t s a hs hst
      obtain ⟨eb1, eb2⟩ := revT_mid n t s b hs hst
      obtain ⟨c0, d0⟩ := rv.at2 (i := t) (by omega)
      obtain ⟨c1, d1⟩ := rv.at2 (i := s) hsn
      rw [ea1] at c0
      rw [eb1] at d0
      rw [ea2] at c1
      rw [eb2] at d1
      have f0 := rv.f (t * 2) (by omega)
      have f1 := rv.f (s * 2) (by omega)
      have f2 := rv.f (t * 2 + 1) (by omega)
      have f3 := rv.f (s * 2 + 1) (by omega)
      have HN : Hid (RV (((((wr.setCell ⟨g, t * 2, none⟩ (a s)).setCell ⟨g, t * 2 + 1, none⟩ (b s))).setCell ⟨g, s * 2, none⟩ (a t)).setCell ⟨g, s * 2 + 1, none⟩ (b t)) base g (n * 2) (lkV (revT n (t + 1) a) (revT n (t + 1) b))) := hid (((rv.put2 (i := t) (by omega) (a s) (b s)).put2 hsn (a t) (b t)).congr2 (fun j hj => revT_step n t s a hs hst j hj) (fun j hj => revT_step n t s b hs hst j hj))
      have HLO := hid rv.lo
      have hao := HA.out (by omega)
      subst hao
      obtain ⟨x1, l1, k1, q1⟩ := (hsl t).1
      obtain ⟨x2, l2, k2, q2⟩ := (hsl s).1
      obtain ⟨x3, l3, k3, q3⟩ := (hsl t).2
      obtain ⟨x4, l4, k4, q4⟩ := (hsl s).2
      rw [q1] at c0 HN
      rw [q2] at c1 HN
      rw [q3] at d0 HN
      rw [q4] at d1 HN
      clear q1 q2 q3 q4
      rw [hsI]
      have t0 : (0 : Int) ≤ (t : Int) := by omega
      have t1 : (t : Int) < (n : Int) := by omega
      have s0 : (0 : Int) ≤ (s : Int) := by omega
      have s1 : (s : Int) < (n : Int) := by omega
      have ts : (t : Int) < (s : Int) := by omega
      clear rv ea1 ea2 eb1 eb2 hs
      go_wp2_with fail
      go_region
      all_goals (go_wp2_with fail)
      all_goals (go_roundg (n - (t + 1)))
      all_goals first | (go_light; omega) | skip
      all_goals exact ⟨t + 1, by omega, rfl, by go_num, by go_num, hid (fun _ => HN.out.drew), hid (but_one (but_one (but_one (but_one HB.out _) _) _) _).drew⟩
    · have HE : Hid (0 < n → RV wr base g (n * 2) (lkV (fun j => a (n - 1 - j)) (fun j => b (n - 1 - j)))) := hid (fun h0 => (HR.out h0).congr2 (fun j hj => revT_all n t a (by omega) j hj) (fun j hj => revT_all n t b (by omega) j hj))
      have hge : ¬ ((t : Int) < (n : Int) - 1 - (t : Int)) := by omega
      go_wp2_with fail
      go_end0
      exact ⟨rfl, HE.out, HB.out⟩

end Go.Proofs.YtbchbmelofojkaaGreatDoor
