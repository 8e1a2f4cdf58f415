/-
  Several texts in one: OpF, OpG; each opens with what it holds.
-/
import Derived.Test.YtoogpkcpheannacDoorMOpA
/-
  A contract of package open's folds: the table, and all that it is folded to; it makes new blocks and writes nothing that was there.
-/
namespace Go.Proofs.YtoogpkcpheannacDoor
open Go.RowKit
set_option linter.unusedVariables false
attribute [local go_sem ↓] Go.wp_at_zero Go.wp_at_succ

/-- The table, and all that it is folded to, in memory. -/
structure Fds (w : World) (ao : Option Addr) (n : Nat) (A : Nat → Option Addr) (C : Nat → Nat) (f g : Nat → Int) : Prop where
  row : LRow w ao (n + 1) A (fun k => 2 ^ (n - k)) C (fdQ f g n)
theorem Fds.kept {w w' : World} {ao : Option Addr} {n : Nat} {A : Nat → Option Addr} {C : Nat → Nat} {f g : Nat → Int} (h : Fds w ao n A C f g) (hb : Below w.heap.size w w') : Fds w' ao n A C f g := ⟨h.row.kept hb⟩
theorem Fds.at {w : World} {ao : Option Addr} {n : Nat} {A : Nat → Option Addr} {C : Nat → Nat} {f g : Nat → Int} (h : Fds w ao n A C f g) : ∃ b off, ao = some ⟨b, off, none⟩ ∧ ∀ k, k ≤ n → ∃ b2 o2, w.cell? ⟨b, off + k, none⟩ = some (.slice (some ⟨b2, o2, none⟩) (2 ^ (n - k)) (C k)) ∧ Row w b2 o2 (2 ^ (n - k)) (fdQ f g n k) := by
  obtain ⟨b, off, e, hr⟩ := h.row (by omega)
  refine ⟨b, off, e, fun k hk => ?_⟩
  obtain ⟨h1, h2⟩ := hr k (by omega)
  obtain ⟨b2, o2, e2, h3⟩ := h2 (Nat.two_pow_pos _)
  rw [e2] at h1
  exact ⟨b2, o2, h1, h3⟩

set_option maxHeartbeats 8000000 in
set_option maxRecDepth 100000 in
theorem folds_ok (n N b off cap cp : Nat) (ap : Option Addr) (f g : Nat → Int) (w : World) (hn : n ≤ 8) (hN : N = 2 ^ n) (ht : Tab w) (hr : Row w b off N f) (hv : Nums f) (hp : PRow w ap n g) (hg : Nums g) :
    Calls Tryd.prog 73 #[.slice (some ⟨b, off, none⟩) N cap, .slice ap n cp] w fun e w' => ∃ ao c A C, e = .returned (.slice ao (n + 1) c) ∧ n + 1 ≤ c ∧ Fds w' ao n A C f g ∧ Below w.heap.size w w' := by
  have hN1 : 1 ≤ N := by rw [hN]; exact Nat.one_le_two_pow
  have hN2 : N ≤ 256 := by rw [hN]; exact pow_256 hn
  obtain ⟨i1, hi1, hy0, hy1, hy2⟩ := info_parts Tryd.infoL
  have HJ := hid (And.intro hi1 (And.intro hy0 (And.intro hy1 hy2)))
  have hlt0 := hr.lt hN1
  have hb0 := bel_new w (.cells #[.slice (some ⟨b, off, none⟩) N cap] 25)
  have HO : Hid (OwnV (w.alloc (.cells #[.slice (some ⟨b, off, none⟩) N cap] 25)) w.heap.size (.slice (some ⟨w.heap.size, 0, none⟩) 1 1) 1 (fun _ => some ⟨b, off, none⟩) (fun t => 2 ^ (n - t)) (fun _ => cap) (fdQ f g n)) := hid ((OwnV.one w w.heap.size (some ⟨b, off, none⟩) N cap f (Nat.le_refl _) (fun x hx => by injection hx with hx; subst hx; exact hlt0) (PRow.of hr)).congr (fun _ _ => rfl) (fun i hi => by rw [show i = 0 from by omega, hN, Nat.sub_zero]) (fun _ _ => rfl) (fun i j hi _ => by rw [show i = 0 from by omega]; rfl))
  have HR0 : Hid (Row (w.alloc (.cells #[.slice (some ⟨b, off, none⟩) N cap] 25)) b off N (fdQ f g n 0)) := hid (hr.kept hb0 hlt0)
  have HB0 := hid hb0
  have HV := hid hv
  have HN := hid hN
  have HP := hid hp
  have HG := hid hg
  have HT := hid ht
  clear hr hv hN hi1 hy0 hy1 hy2 hp hg ht hb0 hlt0
  go_enter Tryd.func73, Tryd.ntmps73
  go_wp2_with fail
  obtain ⟨E, hE⟩ : ∃ E, w.heap.size = E := ⟨_, rfl⟩
  have HE := hid hE
  rw [hE] at HO HB0 ⊢
  clear hE
  generalize w.alloc (.cells #[.slice (some ⟨b, off, none⟩) N cap] 25) = W0 at HO HB0 HR0 ⊢
  go_loopg [0, 5, 12] n (fun q x0 x5 x12 ws => ∃ (t gb go gc m v c : Nat) (A : Nat → Option Addr) (C : Nat → Nat), t ≤ n ∧ q = n - t ∧ x0 = .slice (some ⟨gb, go, none⟩) m gc ∧ x5 = .slice (some ⟨v, 0, none⟩) (t + 1) c ∧ x12 = .int .i64 (t : Int) ∧ 1 ≤ m ∧ m ≤ 256 ∧ Hid (m = 2 ^ (n - t)) ∧ Hid (Row ws gb go m (fdQ f g n t)) ∧ Hid (OwnV ws E (.slice (some ⟨v, 0, none⟩) (t + 1) c) (t + 1) A (fun t => 2 ^ (n - t)) C (fdQ f g n)) ∧ Hid (Below E w ws))
  case atStart => exact ⟨0, b, off, cap, N, _, _, _, _, by omega, rfl, rfl, rfl, rfl, hN1, hN2, hid HN.out, HR0, HO, HB0⟩
  case round =>
    clear HO HB0 HR0
    obtain ⟨t, gb, go, gc, m, v, c, A, C, ht, rfl, rfl, rfl, rfl, hm1, hm2, HM2, HRt, HO, HB⟩ := hrel
    by_cases hlt : t < n
    · obtain ⟨h, rfl, hh1⟩ := half_of hlt HM2.out
      have hhp : h = 2 ^ (n - (t + 1)) := by have := HM2.out; rw [show n - t = (n - (t + 1)) + 1 from by omega, Nat.pow_succ] at this; omega
      have HH := hid hhp
      have hEw : Below w.heap.size w wr := by rw [HE.out]; exact HB.out
      obtain ⟨bp, op, rfl, hpr⟩ := (HP.out.kept hEw) (by omega)
      have c1 := hpr t hlt
      have bx := HG.out t
      have HFX := hid (fix_ok gb go (n - (t + 1)) h gc (fdQ f g n t) (g t) wr (by omega) hhp (HT.out.kept hEw HT.out.1) HRt.out (fdQ_nums f g n t HV.out) bx.1 bx.2)
      have hfe : fldF (fdQ f g n t) h (g t) = fdQ f g n (t + 1) := by
        funext j
        show _ = fldF (fdQ f g n t) (hfQ n t) (g t) j
        rw [hhp]; unfold hfQ
        rw [show n - 1 - t = n - (t + 1) from by omega]
      rw [hfe] at HFX
      generalize g t = x at c1 HFX
      have k0 : (0 : Int) ≤ (t : Int) := by omega
      have k1 : (t : Int) < (n : Int) := by omega
      clear hpr hhp hEw hfe bx
      go_wp2_with (first
        | (go_at_call 109; refine (HFX.out).mono ?_; rintro e w1 ⟨rfl, hm⟩; have HO1 := hid (HO.out.kept hm.below); have HB1 := hid (HB.out.trans (hm.below.mono (by have := HB.out.size; have := HE.out; omega))); have HMD := hid hm; clear hm)
        | (at_builtin; refine wpList_append_lies _ rfl _ _ 76 rfl E 25 i1 (.slice none 0 0) 1 24 Tryd.underlying76 HJ.out.1 HJ.out.2.1 HJ.out.2.2.1 HJ.out.2.2.2 rfl (by decide) _ _ _ rfl (World.ownsRow.alloc HO1.out.own _) ⟨w1.heap.size, 0, none⟩ 1 1 [.slice (some ⟨wr.heap.size, 0, none⟩) h h] rfl rfl ?qc2 ?qc3 ?qc4 ?qc5 ?qc6 ?qc7 (w1.heap.size + 1) ?qc8 ?_))
      case qc2 =>
        intro j u hj
        match j, hj with
        | 0, hj => simp at hj; subst hj; simp [Addr.add]
      case qc3 => intro u hu; simp at hu; subst hu; rfl
      case qc4 => omega
      case qc5 => unfold maxLen; omega
      case qc6 => omega
      case qc7 => have := HB1.out.size; have := HE.out; simp; omega
      case qc8 => simp
      intro g2 c2 w6 hown2 hgrow2 hat2 hlt3
      have hbn := bel_new w1 (.cells #[.slice (some ⟨wr.heap.size, 0, none⟩) h h] 25)
      have hwlt : wr.heap.size < w1.heap.size := HMD.out.row.lt hh1
      have hrow := HMD.out.row.kept hbn hwlt
      have hfar : ∀ a, some (⟨wr.heap.size, 0, none⟩ : Addr) = some a → (Value.slice (some ⟨v, 0, none⟩) (t + 1) c).ownBlock ≠ some a.block := fun a ha => by injection ha with ha; subst ha; exact HO.out.far (Nat.le_refl _)
      have hnext := (HO1.out.kept hbn).next hown2 hgrow2 (by simpa using hat2) (fun a ha => by injection ha with ha; subst ha; simp; omega) hfar (PRow.of hrow)
      have HR6 : Hid (Row w6 wr.heap.size 0 h (fdQ f g n (t + 1))) := hid (fun j hj => (World.cell?_of_block (hgrow2.block wr.heap.size (by simp; omega) (fun e => HO.out.far (Nat.le_refl _) e.symm))).trans (hrow j hj))
      have HO6 : Hid (OwnV w6 E (.slice (some ⟨g2, 0, none⟩) (t + 1 + 1) c2) (t + 1 + 1) (putO A (t + 1) (some ⟨wr.heap.size, 0, none⟩)) (fun t => 2 ^ (n - t)) (putA C (t + 1) h) (fdQ f g n)) := hid (hnext.congr (fun _ _ => rfl) (fun i hi => by unfold putA; by_cases e : i = t + 1 <;> simp [e, HH.out]) (fun _ _ => rfl) (fun i j _ _ => by unfold putF; by_cases e : i = t + 1 <;> simp [e]))
      have HB6 : Hid (Below E w w6) := hid ((HB1.out.alloc (by have := HB1.out.size; have := HE.out; omega) _).grown hgrow2 (by have := HB1.out.size; have := HE.out; simp; omega) (by intro t ht; exact (World.ownsRow.lt HO1.out.own t ht).1))
      clear hown2 hgrow2 hat2 hlt3 hbn hrow hfar hnext
      go_wp2_with fail
      go_roundg (n - (t + 1))
      case measure => go_light; omega
      case rel => exact ⟨t + 1, wr.heap.size, 0, h, h, _, _, _, _, by omega, rfl, rfl, rfl, by go_num, hh1, by omega, HH, HR6, HO6, HB6⟩
    · have e : t = n := by omega
      subst e
      go_wp2_with fail
      go_ret
      obtain ⟨ao, cc, e, hc, hl⟩ := HO.out.is
      exact ⟨ao, cc, A, C, by rw [e]; rfl, hc, ⟨hl⟩, by rw [HE.out]; exact HB.out⟩

end Go.Proofs.YtoogpkcpheannacDoor

/-
  Looks in memory, while they are told: what lies there, what a store leaves, what stays; no program in it.
-/
namespace Go.Proofs.YtoogpkcpheannacDoor
open Go.RowKit
set_option linter.unusedVariables false

/-- w' is w, with new blocks, but for the blocks of S. -/
structure ButS (S : Nat → Prop) (w w' : World) : Prop where
  os : w'.os = w.os
  tape : w'.tape = w.tape
  output : w'.output = w.output
  size : w.heap.size ≤ w'.heap.size
  block : ∀ k, k < w.heap.size → ¬ S k → w'.heap[k]? = w.heap[k]?
theorem ButS.refl (S : Nat → Prop) (w : World) : ButS S w w := ⟨rfl, rfl, rfl, Nat.le_refl _, fun _ _ _ => rfl⟩
theorem ButS.of {S : Nat → Prop} {w w' : World} (h : Below w.heap.size w w') : ButS S w w' := ⟨h.os, h.tape, h.output, h.size, fun k hk _ => h.block k hk⟩
theorem ButS.trans {S : Nat → Prop} {w w' w'' : World} (h : ButS S w w') (g : ButS S w' w'') : ButS S w w'' :=
  ⟨g.os.trans h.os, g.tape.trans h.tape, g.output.trans h.output, Nat.le_trans h.size g.size, fun k hk hn => (g.block k (Nat.lt_of_lt_of_le hk h.size) hn).trans (h.block k hk hn)⟩
theorem ButS.drew {S : Nat → Prop} {w w' : World} (h : ButS S w w') : ButS S w w'.drew := ⟨h.os, h.tape, h.output, h.size, h.block⟩
theorem ButS.drewN {S : Nat → Prop} {w w' : World} (h : ButS S w w') (n : Nat) : ButS S w (w'.drewN n) := ⟨h.os, h.tape, h.output, h.size, h.block⟩
theorem ButS.set {S : Nat → Prop} {w w' : World} (h : ButS S w w') {b q : Nat} (hb : S b) (u : Value) : ButS S w (w'.setCell ⟨b, q, none⟩ u) :=
  ⟨h.os, h.tape, h.output, by rw [World.size_setCell]; exact h.size, fun k hk hn => by
    rw [Below.heap_setCell _ _ _ _ (fun e => hn (by rw [e]; exact hb))]; exact h.block k hk hn⟩
theorem ButS.below {S : Nat → Prop} {w w' : World} {E : Nat} (h : ButS S w w') (hS : ∀ k, S k → E ≤ k) (hE : E ≤ w.heap.size) : Below E w w' :=
  ⟨h.os, h.tape, h.output, h.size, fun k hk => h.block k (by omega) (fun hs => by have := hS k hs; omega)⟩
theorem ButS.cell {S : Nat → Prop} {w w' : World} (h : ButS S w w') {a : Addr} {v : Value} (hc : w.cell? a = some v) (hn : ¬ S a.block) : w'.cell? a = some v :=
  (World.cell?_of_block (h.block _ (World.block_lt_of_cell? w _ hc) hn)).trans hc
theorem keepD {W W' : World} (hb : Below W.heap.size W W') {a : Addr} {v : Value} (h : W.cell? a = some v) : W'.cell? a = some v := (hb.cell (World.block_lt_of_cell? W _ h)).trans h
/-- The looks: m of them, in block LB; look k's pairs in block pb k, its paths in block tb k, n of both. -/
structure LkM (W : World) (E LB n m : Nat) (pb tb : Nat → Nat) (pv : Nat → Nat → Nat → Int) (tv : Nat → Nat → Nat → Value) : Prop where
  cl : ∀ k, k < m → W.cell? ⟨LB, 2 * k, none⟩ = some (.slice (some ⟨pb k, 0, none⟩) n n) ∧ W.cell? ⟨LB, 2 * k + 1, none⟩ = some (.slice (some ⟨tb k, 0, none⟩) n n)
  pc : ∀ k i e, k < m → i < n → e < 2 → W.cell? ⟨pb k, 2 * i + e, none⟩ = some (.int .u64 (pv k i e)) ∧ W.frozen? ⟨pb k, 2 * i + e, none⟩ = false
  tc : ∀ k i e, k < m → i < n → e < 2 → W.cell? ⟨tb k, 2 * i + e, none⟩ = some (tv k i e) ∧ W.frozen? ⟨tb k, 2 * i + e, none⟩ = false
  lo : E ≤ LB ∧ ∀ k, k < m → E ≤ pb k ∧ E ≤ tb k
  lt : ∀ k, k < m → pb k < W.heap.size ∧ tb k < W.heap.size
  ne : ∀ k, k < m → pb k ≠ LB ∧ tb k ≠ LB
  pt : ∀ k j, k < m → j < m → pb k ≠ tb j
  pp : ∀ k j, k < m → j < m → k ≠ j → pb k ≠ pb j ∧ tb k ≠ tb j
/-- Its own blocks. -/
def LkM.S (m : Nat) (pb tb : Nat → Nat) (b : Nat) : Prop := ∃ k, k < m ∧ (b = pb k ∨ b = tb k)
theorem LkM.kept {W W' : World} {E LB n m : Nat} {pb tb : Nat → Nat} {pv : Nat → Nat → Nat → Int} {tv : Nat → Nat → Nat → Value} (h : LkM W E LB n m pb tb pv tv) (hb : Below W.heap.size W W') : LkM W' E LB n m pb tb pv tv :=
  ⟨fun k hk => ⟨(hb.cell (World.block_lt_of_cell? W _ (h.cl k hk).1)).trans (h.cl k hk).1, (hb.cell (World.block_lt_of_cell? W _ (h.cl k hk).2)).trans (h.cl k hk).2⟩,
   fun k i e hk hi he => ⟨(hb.cell (World.block_lt_of_cell? W _ (h.pc k i e hk hi he).1)).trans (h.pc k i e hk hi he).1, (hb.frozen (p := ⟨pb k, 2 * i + e, none⟩) (World.block_lt_of_cell? W _ (h.pc k i e hk hi he).1)).trans (h.pc k i e hk hi he).2⟩,
   fun k i e hk hi he => ⟨(hb.cell (World.block_lt_of_cell? W _ (h.tc k i e hk hi he).1)).trans (h.tc k i e hk hi he).1, (hb.frozen (p := ⟨tb k, 2 * i + e, none⟩) (World.block_lt_of_cell? W _ (h.tc k i e hk hi he).1)).trans (h.tc k i e hk hi he).2⟩,
   h.lo, fun k hk => ⟨Nat.lt_of_lt_of_le (h.lt k hk).1 hb.size, Nat.lt_of_lt_of_le (h.lt k hk).2 hb.size⟩, h.ne, h.pt, h.pp⟩
theorem LkM.drew {W : World} {E LB n m : Nat} {pb tb : Nat → Nat} {pv : Nat → Nat → Nat → Int} {tv : Nat → Nat → Nat → Value} (h : LkM W E LB n m pb tb pv tv) : LkM W.drew E LB n m pb tb pv tv := ⟨h.cl, h.pc, h.tc, h.lo, h.lt, h.ne, h.pt, h.pp⟩
def put3 {α : Type} (f : Nat → Nat → Nat → α) (k i e : Nat) (x : α) (k' i' e' : Nat) : α := if k' = k ∧ i' = i ∧ e' = e then x else f k' i' e'
theorem two_e {i e i' e' : Nat} (he : e < 2) (he' : e' < 2) (h : 2 * i' + e' = 2 * i + e) : i' = i ∧ e' = e := by omega
theorem LkM.putP {W : World} {E LB n m : Nat} {pb tb : Nat → Nat} {pv : Nat → Nat → Nat → Int} {tv : Nat → Nat → Nat → Value} (h : LkM W E LB n m pb tb pv tv) {k i e : Nat} (hk : k < m) (hi : i < n) (he : e < 2) (x : Int) : LkM (W.setCell ⟨pb k, 2 * i + e, none⟩ (.int .u64 x)) E LB n m pb tb (put3 pv k i e x) tv := by
  have far : ∀ (b q : Nat) (v : Value), b ≠ pb k → W.cell? ⟨b, q, none⟩ = some v → (W.setCell ⟨pb k, 2 * i + e, none⟩ (.int .u64 x)).cell? ⟨b, q, none⟩ = some v := fun b q v hb hc => by
    rw [World.cell?_setCell_other _ _ _ _ (by intro e2; simp only [Addr.mk.injEq] at e2; exact hb e2.1.symm)]; exact hc
  refine ⟨fun j hj => ⟨far _ _ _ (h.ne k hk).1.symm (h.cl j hj).1, far _ _ _ (h.ne k hk).1.symm (h.cl j hj).2⟩, fun j i' e' hj hi' he' => ?_, fun j i' e' hj hi' he' => ⟨far _ _ _ (h.pt k j hk hj).symm (h.tc j i' e' hj hi' he').1, by rw [World.frozen?_setCell]; exact (h.tc j i' e' hj hi' he').2⟩, h.lo, fun j hj => by rw [World.size_setCell]; exact h.lt j hj, h.ne, h.pt, h.pp⟩
  refine ⟨?_, by rw [World.frozen?_setCell]; exact (h.pc j i' e' hj hi' he').2⟩
  by_cases hkj : j = k
  · subst hkj
    by_cases hp : i' = i ∧ e' = e
    · obtain ⟨rfl, rfl⟩ := hp
      rw [World.cell?_setCell_same _ _ _ (h.pc j i' e' hj hi' he').1, put3, if_pos ⟨rfl, rfl, rfl⟩]
    · rw [World.cell?_setCell_other _ _ _ _ (by intro e2; simp only [Addr.mk.injEq, true_and, and_true] at e2; exact hp (two_e he he' e2.symm)), put3, if_neg (fun h2 => hp h2.2)]
      exact (h.pc j i' e' hj hi' he').1
  · rw [put3, if_neg (fun h2 => hkj h2.1)]
    exact far _ _ _ (h.pp j k hj hk hkj).1 (h.pc j i' e' hj hi' he').1
theorem LkM.putT {W : World} {E LB n m : Nat} {pb tb : Nat → Nat} {pv : Nat → Nat → Nat → Int} {tv : Nat → Nat → Nat → Value} (h : LkM W E LB n m pb tb pv tv) {k i e : Nat} (hk : k < m) (hi : i < n) (he : e < 2) (x : Value) : LkM (W.setCell ⟨tb k, 2 * i + e, none⟩ x) E LB n m pb tb pv (put3 tv k i e x) := by
  have far : ∀ (b q : Nat) (v : Value), b ≠ tb k → W.cell? ⟨b, q, none⟩ = some v → (W.setCell ⟨tb k, 2 * i + e, none⟩ x).cell? ⟨b, q, none⟩ = some v := fun b q v hb hc => by
    rw [World.cell?_setCell_other _ _ _ _ (by intro e2; simp only [Addr.mk.injEq] at e2; exact hb e2.1.symm)]; exact hc
  refine ⟨fun j hj => ⟨far _ _ _ (h.ne k hk).2.symm (h.cl j hj).1, far _ _ _ (h.ne k hk).2.symm (h.cl j hj).2⟩, fun j i' e' hj hi' he' => ⟨far _ _ _ (h.pt j k hj hk) (h.pc j i' e' hj hi' he').1, by rw [World.frozen?_setCell]; exact (h.pc j i' e' hj hi' he').2⟩, fun j i' e' hj hi' he' => ?_, h.lo, fun j hj => by rw [World.size_setCell]; exact h.lt j hj, h.ne, h.pt, h.pp⟩
  refine ⟨?_, by rw [World.frozen?_setCell]; exact (h.tc j i' e' hj hi' he').2⟩
  by_cases hkj : j = k
  · subst hkj
    by_cases hp : i' = i ∧ e' = e
    · obtain ⟨rfl, rfl⟩ := hp
      rw [World.cell?_setCell_same _ _ _ (h.tc j i' e' hj hi' he').1, put3, if_pos ⟨rfl, rfl, rfl⟩]
    · rw [World.cell?_setCell_other _ _ _ _ (by intro e2; simp only [Addr.mk.injEq, true_and, and_true] at e2; exact hp (two_e he he' e2.symm)), put3, if_neg (fun h2 => hp h2.2)]
      exact (h.tc j i' e' hj hi' he').1
  · rw [put3, if_neg (fun h2 => hkj h2.1)]
    exact far _ _ _ (h.pp j k hj hk hkj).2 (h.tc j i' e' hj hi' he').1
/-- The places of a table's pairs: number j of them. -/
def endQ (pl : Nat → Nat) (H j : Nat) : Nat := pl (j / 2) % H + j % 2 * H
def endV (pl : Nat → Nat) (H t : Nat) : List Value := (List.range t).map fun j => Value.int .i64 ((endQ pl H j : Nat) : Int)
theorem endV_len (pl : Nat → Nat) (H t : Nat) : (endV pl H t).length = t := by simp [endV]
theorem endV_at (pl : Nat → Nat) (H t j : Nat) (h : j < t) : (endV pl H t)[j]? = some (.int .i64 ((endQ pl H j : Nat) : Int)) := by simp [endV, h]
theorem endV_next (pl : Nat → Nat) (H k : Nat) (q : Nat) (hq : pl k % H = q) : endV pl H (2 * k) ++ [.int .i64 (q : Int), .int .i64 ((q : Int) + (H : Int))] = endV pl H (2 * (k + 1)) := by
  unfold endV
  rw [show 2 * (k + 1) = 2 * k + 1 + 1 from by omega, List.range_succ, List.range_succ, List.map_append, List.map_append, List.append_assoc]
  congr 1
  have e0 : endQ pl H (2 * k) = q := by unfold endQ; rw [Nat.mul_div_cancel_left _ (by omega), Nat.mul_mod_right, Nat.zero_mul, Nat.add_zero, hq]
  have e1 : endQ pl H (2 * k + 1) = q + H := by unfold endQ; rw [show (2 * k + 1) / 2 = k from by omega, show (2 * k + 1) % 2 = 1 from by omega, Nat.one_mul, hq]
  simp [e0, e1]

end Go.Proofs.YtoogpkcpheannacDoor
