/-
  A contract of package open's folds: the table, and all that it is folded to; it makes new blocks and writes nothing that was there.
-/
import Derived.Test.YtnnjajmkfgnhcaaDoorOpA
namespace Go.Proofs.YtnnjajmkfgnhcaaDoor
open Go.RowKit
set_option linter.unusedVariables false
attribute [local go_sem ↓] Go.wp_at_zero Go.wp_at_succ

/-- The table, and all that it is folded to, in memory. -/
structure Fds (w : World) (ao : Option Addr) (n : Nat) (A : Nat → Option Addr) (C : Nat → Nat) (f g : Nat → Int) : Prop where
  row : LRow w ao (n + 1) A (fun k => 2 ^ (n - k)) C (fdQ f g n)
theorem Fds.kept {w w' : World} {ao : Option Addr} {n : Nat} {A : Nat → Option Addr} {C : Nat → Nat} {f g : Nat → Int} (h : Fds w ao n A C f g) (hb : Below w.heap.size w w') : Fds w' ao n A C f g := ⟨h.row.kept hb⟩
theorem Fds.at {w : World} {ao : Option Addr} {n : Nat} {A : Nat → Option Addr} {C : Nat → Nat} {f g : Nat → Int} (h : Fds w ao n A C f g) : ∃ b off, ao = some ⟨b, off, none⟩ ∧ ∀ k, k ≤ n → ∃ b2 o2, w.cell? ⟨b, off + k, none⟩ = some (.slice (some ⟨b2, o2, none⟩) (2 ^ (n - k)) (C k)) ∧ Row w b2 o2 (2 ^ (n - k)) (fdQ f g n k) := by
  obtain ⟨b, off, e, hr⟩ := h.row (by omega)
  refine ⟨b, off, e, fun k hk => ?_⟩
  obtain ⟨h1, h2⟩ := hr k (by omega)
  obtain ⟨b2, o2, e2, h3⟩ := h2 (Nat.two_pow_pos _)
  rw [e2] at h1
  exact ⟨b2, o2, h1, h3⟩

set_option maxHeartbeats 8000000 in
set_option maxRecDepth 100000 in
theorem folds_ok (n N b off cap cp : Nat) (ap : Option Addr) (f g : Nat → Int) (w : World) (hn : n ≤ 8) (hN : N = 2 ^ n) (ht : Tab w) (hr : Row w b off N f) (hv : Nums f) (hp : PRow w ap n g) (hg : Nums g) :
    Calls Tryd.prog 39 #[.slice (some ⟨b, off, none⟩) N cap, .slice ap n cp] w fun e w' => ∃ ao c A C, e = .returned (.slice ao (n + 1) c) ∧ n + 1 ≤ c ∧ Fds w' ao n A C f g ∧ Below w.heap.size w w' := by
  have hN1 : 1 ≤ N := by rw [hN]; exact Nat.one_le_two_pow
  have hN2 : N ≤ 256 := by rw [hN]; exact pow_256 hn
  obtain ⟨i1, hi1, hy0, hy1, hy2⟩ := info_parts Tryd.infoL
  have HJ := hid (And.intro hi1 (And.intro hy0 (And.intro hy1 hy2)))
  have hlt0 := hr.lt hN1
  have hb0 := bel_new w (.cells #[.slice (some ⟨b, off, none⟩) N cap] 22)
  have HO : Hid (OwnV (w.alloc (.cells #[.slice (some ⟨b, off, none⟩) N cap] 22)) w.heap.size (.slice (some ⟨w.heap.size, 0, none⟩) 1 1) 1 (fun _ => some ⟨b, off, none⟩) (fun t => 2 ^ (n - t)) (fun _ => cap) (fdQ f g n)) := hid ((OwnV.one w w.heap.size (some ⟨b, off, none⟩) N cap f (Nat.le_refl _) (fun x hx => by injection hx with hx; subst hx; exact hlt0) (PRow.of hr)).congr (fun _ _ => rfl) (fun i hi => by rw [show i = 0 from by omega, hN, Nat.sub_zero]) (fun _ _ => rfl) (fun i j hi _ => by rw [show i = 0 from by omega]; rfl))
  have HR0 : Hid (Row (w.alloc (.cells #[.slice (some ⟨b, off, none⟩) N cap] 22)) b off N (fdQ f g n 0)) := hid (hr.kept hb0 hlt0)
  have HB0 := hid hb0
  have HV := hid hv
  have HN := hid hN
  have HP := hid hp
  have HG := hid hg
  have HT := hid ht
  clear hr hv hN hi1 hy0 hy1 hy2 hp hg ht hb0 hlt0
  go_enter Tryd.func39, Tryd.ntmps39
  go_wp2_with fail
  obtain ⟨E, hE⟩ : ∃ E, w.heap.size = E := ⟨_, rfl⟩
  have HE := hid hE
  rw [hE] at HO HB0 ⊢
  clear hE
  generalize w.alloc (.cells #[.slice (some ⟨b, off, none⟩) N cap] 22) = W0 at HO HB0 HR0 ⊢
  go_loopg [0, 5, 12] n (fun q x0 x5 x12 ws => ∃ (t gb go gc m v c : Nat) (A : Nat → Option Addr) (C : Nat → Nat), t ≤ n ∧ q = n - t ∧ x0 = .slice (some ⟨gb, go, none⟩) m gc ∧ x5 = .slice (some ⟨v, 0, none⟩) (t + 1) c ∧ x12 = .int .i64 (t : Int) ∧ 1 ≤ m ∧ m ≤ 256 ∧ Hid (m = 2 ^ (n - t)) ∧ Hid (Row ws gb go m (fdQ f g n t)) ∧ Hid (OwnV ws E (.slice (some ⟨v, 0, none⟩) (t + 1) c) (t + 1) A (fun t => 2 ^ (n - t)) C (fdQ f g n)) ∧ Hid (Below E w ws))
  case atStart => exact ⟨0, b, off, cap, N, _, _, _, _, by omega, rfl, rfl, rfl, rfl, hN1, hN2, hid HN.out, HR0, HO, HB0⟩
  case round =>
    clear HO HB0 HR0
    obtain ⟨t, gb, go, gc, m, v, c, A, C, ht, rfl, rfl, rfl, rfl, hm1, hm2, HM2, HRt, HO, HB⟩ := hrel
    by_cases hlt : t < n
    · obtain ⟨h, rfl, hh1⟩ := half_of hlt HM2.out
      have hhp : h = 2 ^ (n - (t + 1)) := by have := HM2.out; rw [show n - t = (n - (t + 1)) + 1 from by omega, Nat.pow_succ] at this; omega
      have HH := hid hhp
      have hEw : Below w.heap.size w wr := by rw [HE.out]; exact HB.out
      obtain ⟨bp, op, rfl, hpr⟩ := (HP.out.kept hEw) (by omega)
      have c1 := hpr t hlt
      have bx := HG.out t
      have HFX := hid (fix_ok gb go (n - (t + 1)) h gc (fdQ f g n t) (g t) wr (by omega) hhp (HT.out.kept hEw HT.out.1) HRt.out (fdQ_nums f g n t HV.out) bx.1 bx.2)
      have hfe : fldF (fdQ f g n t) h (g t) = fdQ f g n (t + 1) := by
        funext j
        show _ = fldF (fdQ f g n t) (hfQ n t) (g t) j
        rw [hhp]; unfold hfQ
        rw [show n - 1 - t = n - (t + 1) from by omega]
      rw [hfe] at HFX
      generalize g t = x at c1 HFX
      have k0 : (0 : Int) ≤ (t : Int) := by omega
      have k1 : (t : Int) < (n : Int) := by omega
      clear hpr hhp hEw hfe bx
      go_wp2_with (first
        | (go_at_call 68; refine (HFX.out).mono ?_; rintro e w1 ⟨rfl, hm⟩; have HO1 := hid (HO.out.kept hm.below); have HB1 := hid (HB.out.trans (hm.below.mono (by have := HB.out.size; have := HE.out; omega))); have HMD := hid hm; clear hm)
        | (at_builtin; refine wpList_append_lies _ rfl _ _ 50 rfl E 22 i1 (.slice none 0 0) 1 24 Tryd.underlying50 HJ.out.1 HJ.out.2.1 HJ.out.2.2.1 HJ.out.2.2.2 rfl (by decide) _ _ _ rfl (World.ownsRow.alloc HO1.out.own _) ⟨w1.heap.size, 0, none⟩ 1 1 [.slice (some ⟨wr.heap.size, 0, none⟩) h h] rfl rfl ?qc2 ?qc3 ?qc4 ?qc5 ?qc6 ?qc7 (w1.heap.size + 1) ?qc8 ?_))
      case qc2 =>
        intro j u hj
        match j, hj with
        | 0, hj => simp at hj; subst hj; simp [Addr.add]
      case qc3 => intro u hu; simp at hu; subst hu; rfl
      case qc4 => omega
      case qc5 => unfold maxLen; omega
      case qc6 => omega
      case qc7 => have := HB1.out.size; have := HE.out; simp; omega
      case qc8 => simp
      intro g2 c2 w6 hown2 hgrow2 hat2 hlt3
      have hbn := bel_new w1 (.cells #[.slice (some ⟨wr.heap.size, 0, none⟩) h h] 22)
      have hwlt : wr.heap.size < w1.heap.size := HMD.out.row.lt hh1
      have hrow := HMD.out.row.kept hbn hwlt
      have hfar : ∀ a, some (⟨wr.heap.size, 0, none⟩ : Addr) = some a → (Value.slice (some ⟨v, 0, none⟩) (t + 1) c).ownBlock ≠ some a.block := fun a ha => by injection ha with ha; subst ha; exact HO.out.far (Nat.le_refl _)
      have hnext := (HO1.out.kept hbn).next hown2 hgrow2 (by simpa using hat2) (fun a ha => by injection ha with ha; subst ha; simp; omega) hfar (PRow.of hrow)
      have HR6 : Hid (Row w6 wr.heap.size 0 h (fdQ f g n (t + 1))) := hid (fun j hj => (World.cell?_of_block (hgrow2.block wr.heap.size (by simp; omega) (fun e => HO.out.far (Nat.le_refl _) e.symm))).trans (hrow j hj))
      have HO6 : Hid (OwnV w6 E (.slice (some ⟨g2, 0, none⟩) (t + 1 + 1) c2) (t + 1 + 1) (putO A (t + 1) (some ⟨wr.heap.size, 0, none⟩)) (fun t => 2 ^ (n - t)) (putA C (t + 1) h) (fdQ f g n)) := hid (hnext.congr (fun _ _ => rfl) (fun i hi => by unfold putA; by_cases e : i = t + 1 <;> simp [e, HH.out]) (fun _ _ => rfl) (fun i j _ _ => by unfold putF; by_cases e : i = t + 1 <;> simp [e]))
      have HB6 : Hid (Below E w w6) := hid ((HB1.out.alloc (by have := HB1.out.size; have := HE.out; omega) _).grown hgrow2 (by have := HB1.out.size; have := HE.out; simp; omega) (by intro t ht; exact (World.ownsRow.lt HO1.out.own t ht).1))
      clear hown2 hgrow2 hat2 hlt3 hbn hrow hfar hnext
      go_wp2_with fail
      go_roundg (n - (t + 1))
      case measure => go_light; omega
      case rel => exact ⟨t + 1, wr.heap.size, 0, h, h, _, _, _, _, by omega, rfl, rfl, rfl, by go_num, hh1, by omega, HH, HR6, HO6, HB6⟩
    · have e : t = n := by omega
      subst e
      go_wp2_with fail
      go_ret
      obtain ⟨ao, cc, e, hc, hl⟩ := HO.out.is
      exact ⟨ao, cc, A, C, by rw [e]; rfl, hc, ⟨hl⟩, by rw [HE.out]; exact HB.out⟩

end Go.Proofs.YtnnjajmkfgnhcaaDoor
