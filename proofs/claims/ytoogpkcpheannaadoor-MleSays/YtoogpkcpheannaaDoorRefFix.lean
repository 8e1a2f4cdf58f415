/-
  A contract of tallyref's Fix: for every table of at least one variable; it makes new rows and writes nothing that was there.
-/
import Derived.Test.YtoogpkcpheannaaDoorRefMle2
namespace Go.Proofs.YtoogpkcpheannaaDoor
open Go.RowKit
set_option linter.unusedVariables false
attribute [local go_sem ↓] Go.wp_at_zero Go.wp_at_succ

/-- What the document asks of a table fixed at x. -/
def fixQ (f : Nat → Int) (h : Nat) (x : Int) (j : Nat) : Int := ofK (foldK (fun j => kk (f j)) h (kk x) j)
theorem fixQ_at (f : Nat → Int) (x : Int) (n h k : Nat) (hh : h = 2 ^ n) (hk : k < h) : ofK (evS (fun j => kk (f j)) (fun j => kk (catF 1 (fun _ => x) (bitF k n) j)) (n + 1)) = fixQ f h x k := by
  unfold fixQ
  rw [hh, ← evS_fix (fun j => kk (f j)) (kk x) n k (by rw [← hh]; exact hk)]
  congr 1
  refine evS_congr _ (fun _ _ => rfl) fun j hj => ?_
  unfold catF
  by_cases e : j = 0
  · rw [if_pos (by omega), if_pos e]
  · rw [if_neg (by omega), if_neg e, kk_bitF]
theorem Nums_cat (n : Nat) {f g : Nat → Int} (hf : Nums f) (hg : Nums g) : Nums (catF n f g) := fun j => by
  unfold catF
  split
  · exact hf j
  · exact hg _

set_option maxHeartbeats 4000000 in
set_option maxRecDepth 100000 in
theorem rfix_ok (b off n h cap : Nat) (f : Nat → Int) (x : Int) (w : World) (hn : n + 1 ≤ 8) (hh : h = 2 ^ n) (hr : Row w b off (2 * h) f) (hv : Nums f) (x0 : 0 ≤ x) (x1 : x ≤ 18446744073709551615) :
    Calls Tryd.prog 8 #[.slice (some ⟨b, off, none⟩) (2 * h) cap, .int .u64 x] w fun e w' => ∃ v, e = .returned v ∧ Own w' w.heap.size v h (fixQ f h x) ∧ Below w.heap.size w w' := by
  obtain ⟨i0, hi, hz0, hz1, hz2⟩ := info_parts Tryd.infoO
  have HI := hid (And.intro hi (And.intro hz0 (And.intro hz1 hz2)))
  clear hi hz0 hz1 hz2
  have h1 : 1 ≤ h := by rw [hh]; exact Nat.one_le_two_pow
  have h2 : h ≤ 256 := by rw [hh]; exact Nat.pow_le_pow_right (j := 8) (by omega) (by omega)
  have e2 : 2 * h = 2 ^ (n + 1) := by rw [Nat.pow_succ, hh, Nat.mul_comm]
  have HVA := hid (rvars_ok (some ⟨b, off, none⟩) (n + 1) (2 * h) cap w hn e2)
  have HE2 := hid e2
  have HLT := hid (hr.lt (by omega))
  have HR := hid hr
  have HV := hid hv
  have HH := hid hh
  clear hr hv hh e2
  have hd : ((2 * h : Nat) : Int) / 2 = (h : Int) := by omega
  go_enter Tryd.func8, Tryd.ntmps8
  go_wp2_with (go_at_call 6; refine (HVA.out).mono ?_; rintro e w' ⟨rfl, hw⟩; obtain rfl := hw.symm)
  clear HVA
  go_loopg [6, 7] h (fun q o i wr => ∃ (k : Nat) (v : Value), k ≤ h ∧ q = h - k ∧ o = v ∧ i = .int .i64 (k : Int) ∧ Hid (Own wr w.heap.size v k (fixQ f h x)) ∧ Hid (Below w.heap.size w wr))
  case atStart => exact ⟨0, _, by omega, rfl, rfl, rfl, hid (Own.nil _ _ _), hid (Below.refl _ _)⟩
  case round =>
    obtain ⟨k, v, hk, rfl, rfl, rfl, HO, HB⟩ := hrel
    by_cases hlt : k < h
    · go_wp2_with fail
      refine (rbits_any k n _ (by omega) (by omega)).mono ?_
      rintro e w1 ⟨vb, rfl, hob, hbb, hzb⟩
      obtain ⟨ab, cb, rfl, hpb, _⟩ := hob.is
      have hx1 : Row (wr.alloc (.cells #[.int .u64 x] 23)) wr.heap.size 0 1 (fun _ => x) := fun j hj => by
        rw [Nat.zero_add, World.cell?_alloc_new]
        match j, hj with
        | 0, _ => rfl
      have hB1 : Below wr.heap.size wr (wr.alloc (.cells #[.int .u64 x] 23)) := (Below.refl _ wr).alloc (Nat.le_refl _) _
      have hx2 := hx1.kept hbb (hx1.lt (by omega))
      have hB2 : Below wr.heap.size wr w1 := hB1.trans (hbb.mono hB1.size)
      have hA : Below w1.heap.size w1 (w1.alloc (.cells #[.slice (some ⟨wr.heap.size, 0, none⟩) 1 1, .slice ab n cb] 22)) := (Below.refl _ w1).alloc (Nat.le_refl _) _
      have HX := hid (hx2.kept hA (hx2.lt (by omega)))
      have HPB := hid (hpb.kept hA)
      have HB2 := hid (hB2.trans (hA.mono hB2.size))
      clear hob hbb hzb hpb hx1 hB1 hx2 hB2 hA
      go_wp2_with fail
      refine (joined_two w1.heap.size 2 (some ⟨wr.heap.size, 0, none⟩) ab 1 1 n cb (fun _ => x) (bitF k n) _ (by rw [World.cell?_alloc_new]; rfl) (by rw [World.cell?_alloc_new]; rfl) (PRow.of HX.out) HPB.out (by omega) (by omega)).mono ?_
      rintro e w2 ⟨vj, rfl, hoj, hbj⟩
      rw [Nat.add_comm 1 n] at hoj
      obtain ⟨aj, cj, rfl, hpj, _⟩ := hoj.is
      have hB3 := HB2.out.trans (hbj.mono HB2.out.size)
      have HPJ := hid hpj
      have HB3 := hid hB3
      clear hoj hpj hbj hB3 HPB HX HB2
      have hrw2 := (HR.out.kept HB.out HLT.out).kept HB3.out (Nat.lt_of_lt_of_le HLT.out HB.out.size)
      have hnum : Nums (catF 1 (fun _ => x) (bitF k n)) := Nums_cat 1 (fun _ => ⟨x0, x1⟩) (Nums_bitF k n)
      have hev := reval_any b off (n + 1) (2 * h) cap cj aj f _ w2 (by omega) HE2.out (by omega) hrw2 HV.out HPJ.out hnum
      rw [fixQ_at f x n h k HH.out hlt] at hev
      obtain ⟨y, hy⟩ : ∃ y, fixQ f h x k = y := ⟨_, rfl⟩
      rw [hy] at hev
      have HY := hid hy
      have HEV := hid hev
      clear hev hy hrw2 hnum
      go_wp2_with fail
      refine (HEV.out).mono ?_
      rintro e w3 ⟨rfl, hb3⟩
      have hB4 := HB3.out.trans (hb3.mono HB3.out.size)
      have HO4 := hid (HO.out.kept hB4)
      have HB4 := hid (HB.out.trans (hB4.mono HB.out.size))
      clear hb3 hB4 HEV HB3 HPJ
      go_wp2_with (at_builtin; refine wpList_append_lies _ rfl _ _ 22 rfl w.heap.size 23 i0 (.int .u64 0) 1 8 Tryd.underlying22 HI.out.1 HI.out.2.1 HI.out.2.2.1 HI.out.2.2.2 rfl (by decide) _ _ _ rfl (World.ownsRow.alloc HO4.out _) ⟨w3.heap.size, 0, none⟩ 1 1 [.int .u64 y] rfl rfl ?qc2 ?qc3 ?qc4 ?qc5 ?qc6 ?qc7 (w3.heap.size + 1) ?qc8 ?_)
      case qc2 =>
        intro j u hj
        match j, hj with
        | 0, hj => simp at hj; subst hj; simp [Addr.add]
      case qc3 => intro u hu; simp at hu; subst hu; rfl
      case qc4 => omega
      case qc5 => unfold maxLen; omega
      case qc6 => omega
      case qc7 => have := HB4.out.size; simp; omega
      case qc8 => simp
      intro g2 c2 w6 hown2 hgrow2 hat2 hlt2
      have HO6 : Hid (Own w6 w.heap.size (.slice (some ⟨g2, 0, none⟩) (k + 1) c2) (k + 1) (fixQ f h x)) := hid (by
        rw [cellsOf_snoc] at hown2
        exact Own.congr hown2 fun j hj => by
          unfold catF
          by_cases e : j < k
          · rw [if_pos e]
          · rw [if_neg e, show j = k from by omega, HY.out])
      have HB6 : Hid (Below w.heap.size w w6) := hid ((HB4.out.alloc HB4.out.size _).grown hgrow2 (by have := HB4.out.size; simp; omega) (by intro t ht; exact (World.ownsRow.lt HO4.out t ht).1))
      clear hown2 hgrow2 hat2 hlt2
      go_wp2_with fail
      go_roundg (h - (k + 1))
      case measure => go_light; omega
      case rel => exact ⟨k + 1, _, by omega, rfl, rfl, by go_num, HO6, HB6⟩
    · have e : k = h := by omega
      subst e
      go_wp2_with fail
      go_ret
      exact ⟨_, rfl, HO.out, HB.out⟩

end Go.Proofs.YtoogpkcpheannaaDoor
