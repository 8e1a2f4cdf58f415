/-
  Package tree's rows, Paths and Root, each for every input; they write nothing that was there.
-/
import Derived.Test.YtmjpcmeinlkfbaaDoorTreeCl
import Derived.Test.YtmjpcmeinlkfbaaDoorOwnV
import Derived.Test.YtmjpcmeinlkfbaaDoorMle
import Derived.Deep.RegionWith
import Derived.Deep.RegionHeld3
namespace Go.Proofs.YtmjpcmeinlkfbaaDoor
open Go.RowKit
set_option linter.unusedVariables false
attribute [local go_sem ↓] Go.wp_at_zero Go.wp_at_succ

/-- The place beside is told by the lowest bit. -/
theorem xor_all : ((List.range 256).all fun m => bits .xor .i64 (m : Int) 1 == ((sib m : Nat) : Int)) = true := by kernel_rfl
theorem xor_sib (m : Nat) (h : m < 256) : bits .xor .i64 (m : Int) 1 = ((sib m : Nat) : Int) := by
  have := List.all_eq_true.1 xor_all m (List.mem_range.2 h)
  simpa using this
theorem sib_lt {m z : Nat} (h : m < 2 * z) : sib m < 2 * z := by unfold sib; split <;> omega
theorem Made.held {w w' w'' : World} {n : Nat} {f : Nat → Int} (h : Made w w' n f) (hn : 0 < n) (hb : Below w'.heap.size w' w'') : Made w w'' n f :=
  ⟨h.below.trans (hb.mono h.below.size), h.row.kept hb (h.row.lt hn), h.free.kept hb (h.row.lt hn)⟩
theorem path_next (n : Nat) (f : Nat → Int) (i k j : Nat) (y : Int) (hy : pathQ n f i k = y) : (if j = k then y else if j < k then pathQ n f i j else 0) = if j < k + 1 then pathQ n f i j else 0 := by
  by_cases e : j = k
  · subst e
    rw [if_pos rfl, if_pos (by omega), hy]
  · rw [if_neg e]
    by_cases h2 : j < k
    · rw [if_pos h2, if_pos (by omega)]
    · rw [if_neg h2, if_neg (by omega)]

theorem lev_step (F : Nat → Int) (k j : Nat) (y : Int) (hy : y = F k) : (if j = k then y else if j < k then F j else 0) = if j < k + 1 then F j else 0 := by
  by_cases e : j = k
  · subst e
    rw [if_pos rfl, if_pos (by omega), hy]
  · rw [if_neg e]
    by_cases h2 : j < k
    · rw [if_pos h2, if_pos (by omega)]
    · rw [if_neg h2, if_neg (by omega)]

set_option maxHeartbeats 4000000 in
set_option maxRecDepth 100000 in
/-- One row of the tree, out of the row below. -/
theorem paired_ok (b off h cap : Nat) (f : Nat → Int) (w : World) (h1 : 1 ≤ h) (hh : h ≤ 256) (hr : Row w b off (2 * h) f) (hv : Nums f) :
    Calls Tryd.prog 85 #[.slice (some ⟨b, off, none⟩) (2 * h) cap] w fun e w' => e = .returned (.slice (some ⟨w.heap.size, 0, none⟩) h h) ∧ Made w w' h (fun j => prQ (f (2 * j)) (f (2 * j + 1))) := by
  have HR := hid hr
  have HV := hid hv
  clear hr hv
  have hmk := run_make_row' (P := Tryd.prog) 25 45 (.int .u64 0) 8 Tryd.underlying25 Tryd.infoM rfl .i64 .i64 h (by omega) (by omega)
  go_enter Tryd.func85, Tryd.ntmps85
  go_wp2_with fail
  clear hmk
  go_loopg [11] h (fun q x wr => ∃ k : Nat, k ≤ h ∧ q = h - k ∧ x = .int .i64 (k : Int) ∧ Hid (Made w wr h (fun j => if j < k then prQ (f (2 * j)) (f (2 * j + 1)) else 0)))
  case atStart => exact ⟨0, by omega, rfl, rfl, hid ((Made.start w h 45).congr fun j _ => by rw [if_neg (by omega)])⟩
  case round =>
    obtain ⟨k, hk, rfl, rfl, HM⟩ := hrel
    by_cases hlt : k < h
    · have c1 := HM.out.old HR.out (2 * k) (by omega)
      have c2 := HM.out.old HR.out (2 * k + 1) (by omega)
      have c3 := HM.out.cell k hlt
      have f3 := HM.out.frozen k hlt
      rw [if_neg (by omega)] at c3
      have hBlt : w.heap.size < wr.heap.size := HM.out.row.lt (by omega)
      obtain ⟨x, hx⟩ : ∃ x, f (2 * k) = x := ⟨_, rfl⟩
      obtain ⟨y, hy⟩ : ∃ y, f (2 * k + 1) = y := ⟨_, rfl⟩
      have bx := HV.out (2 * k)
      have by1 := HV.out (2 * k + 1)
      rw [hx] at c1 bx
      rw [hy] at c2 by1
      obtain ⟨x0, x1⟩ := bx
      obtain ⟨y0, y1⟩ := by1
      have HXY : Hid (prQ x y = prQ (f (2 * k)) (f (2 * k + 1))) := hid (by rw [hx, hy])
      clear hx hy
      have HP := hid (fun W => tpair x y W x0 x1 y0 y1)
      have k0 : (0 : Int) ≤ (k : Int) := by omega
      have k1 : (k : Int) < (h : Int) := by omega
      have k2 : (0 : Int) ≤ 2 * (k : Int) := by omega
      have k3 : 2 * (k : Int) < ((2 * h : Nat) : Int) := by omega
      have k4 : (0 : Int) ≤ 2 * (k : Int) + 1 := by omega
      have k5 : 2 * (k : Int) + 1 < ((2 * h : Nat) : Int) := by omega
      have k6 : 2 * (k : Int) < 2 * (h : Int) := by omega
      have k7 : 2 * (k : Int) + 1 < 2 * (h : Int) := by omega
      have k8 : (2 * (k : Int)).toNat = 2 * k := by omega
      have k9 : (2 * (k : Int) + 1).toNat = 2 * k + 1 := by omega
      have wr1 : IntKind.i64.wrap (2 * (k : Int)) = 2 * (k : Int) := IntWalk.i64_in _ (by omega)
      have wr2 : IntKind.i64.wrap (2 * (k : Int) + 1) = 2 * (k : Int) + 1 := IntWalk.i64_in _ (by omega)
      have hne : b ≠ w.heap.size := by have := HR.out.lt (by omega); omega
      have HZS : Hid (∀ W : World, W.cell? ⟨b, off + 2 * k, none⟩ = some (.int .u64 x) ∧ W.cell? ⟨b, off + (2 * k + 1), none⟩ = some (.int .u64 y) → ∀ v, (W.setCell ⟨w.heap.size, k, none⟩ v).cell? ⟨b, off + 2 * k, none⟩ = some (.int .u64 x) ∧ (W.setCell ⟨w.heap.size, k, none⟩ v).cell? ⟨b, off + (2 * k + 1), none⟩ = some (.int .u64 y)) := hid (fun W h v => ⟨by rw [World.cell?_setCell_other _ _ _ _ (by intro e; simp only [Addr.mk.injEq] at e; omega)]; exact h.1, by rw [World.cell?_setCell_other _ _ _ _ (by intro e; simp only [Addr.mk.injEq] at e; omega)]; exact h.2⟩)
      have HK : Hid (∀ W W' : World, Below W.heap.size W W' → (W.cell? ⟨b, off + 2 * k, none⟩ = some (.int .u64 x) ∧ W.cell? ⟨b, off + (2 * k + 1), none⟩ = some (.int .u64 y)) → W'.cell? ⟨b, off + 2 * k, none⟩ = some (.int .u64 x) ∧ W'.cell? ⟨b, off + (2 * k + 1), none⟩ = some (.int .u64 y)) := hid (fun W W' hb h => ⟨(hb.cell (World.block_lt_of_cell? W _ h.1)).trans h.1, (hb.cell (World.block_lt_of_cell? W _ h.2)).trans h.2⟩)
      clear hne
      go_wp2_with fail
      go_region_held3 (fun W => W.cell? ⟨b, off + 2 * k, none⟩ = some (.int .u64 x) ∧ W.cell? ⟨b, off + (2 * k + 1), none⟩ = some (.int .u64 y)) (first | assumption | exact ⟨c1, c2⟩ | exact HZ1.out | exact HZS.out _ HZ1.out _) (first | (go_at_call 29; refine (HP.out _).mono ?_; rintro e w1 ⟨rfl, hb⟩; have hb2 : Below wr.heap.size wr w1 := (by first | exact hb | exact (Below.refl _ wr).drew.trans hb); clear hb; have c4 := (hb2.cell (p := ⟨w.heap.size, k, none⟩) hBlt).trans c3; have f4 := (hb2.frozen (p := ⟨w.heap.size, k, none⟩) hBlt).trans f3; have HZ1 := hid (HK.out wr w1 hb2 ⟨c1, c2⟩); have HB := hid hb2; clear hb2))
      all_goals (go_wp2_with fail)
      all_goals (go_roundg (h - (k + 1)))
      all_goals first | (go_light; omega) | skip
      all_goals
        have hst := ((HM.out.held (by omega) HB.out).store k (prQ x y) hlt).congr fun j _ => lev_step (fun j => prQ (f (2 * j)) (f (2 * j + 1))) k j _ HXY.out
        exact ⟨k + 1, by omega, rfl, by go_num, (by first | exact hid hst | exact hid hst.drew)⟩
    · have e : k = h := by omega
      subst e
      go_wp2_with fail
      go_ret
      exact ⟨rfl, HM.out.congr fun j hj => by rw [if_pos hj]⟩

theorem half_of2 {n k M : Nat} (hk : k < n) (h : M = 2 ^ (n - k)) : ∃ H, M = 2 * H ∧ 1 ≤ H := ⟨2 ^ (n - 1 - k), by rw [h, show n - k = (n - 1 - k) + 1 from by omega, Nat.pow_succ]; omega, Nat.one_le_two_pow⟩
/-- The tree over a table, row by row. -/
structure Rws (w : World) (ao : Option Addr) (n : Nat) (A : Nat → Option Addr) (C : Nat → Nat) (f : Nat → Int) : Prop where
  row : LRow w ao (n + 1) A (fun k => 2 ^ (n - k)) C (levQ f)
theorem Rws.kept {w w' : World} {ao : Option Addr} {n : Nat} {A : Nat → Option Addr} {C : Nat → Nat} {f : Nat → Int} (h : Rws w ao n A C f) (hb : Below w.heap.size w w') : Rws w' ao n A C f := ⟨h.row.kept hb⟩
theorem Rws.at {w : World} {ao : Option Addr} {n : Nat} {A : Nat → Option Addr} {C : Nat → Nat} {f : Nat → Int} (h : Rws w ao n A C f) : ∃ b off, ao = some ⟨b, off, none⟩ ∧ ∀ k, k ≤ n → ∃ b2 o2, w.cell? ⟨b, off + k, none⟩ = some (.slice (some ⟨b2, o2, none⟩) (2 ^ (n - k)) (C k)) ∧ Row w b2 o2 (2 ^ (n - k)) (levQ f k) := by
  obtain ⟨b, off, e, hr⟩ := h.row (by omega)
  refine ⟨b, off, e, fun k hk => ?_⟩
  obtain ⟨h1, h2⟩ := hr k (by omega)
  obtain ⟨b2, o2, e2, h3⟩ := h2 (Nat.two_pow_pos _)
  rw [e2] at h1
  exact ⟨b2, o2, h1, h3⟩
set_option maxHeartbeats 8000000 in
set_option maxRecDepth 100000 in
theorem rows_ok (n N b off cap : Nat) (f : Nat → Int) (w : World) (hn : n ≤ 8) (hN : N = 2 ^ n) (hr : Row w b off N f) (hv : Nums f) :
    Calls Tryd.prog 56 #[.slice (some ⟨b, off, none⟩) N cap] w fun e w' => ∃ ao c A C, e = .returned (.slice ao (n + 1) c) ∧ n + 1 ≤ c ∧ Rws w' ao n A C f ∧ Below w.heap.size w w' := by
  have hN1 : 1 ≤ N := by rw [hN]; exact Nat.one_le_two_pow
  have hN2 : N ≤ 256 := by rw [hN]; exact pow_256 hn
  obtain ⟨i1, hi1, hy0, hy1, hy2⟩ := info_parts Tryd.infoL
  have HJ := hid (And.intro hi1 (And.intro hy0 (And.intro hy1 hy2)))
  have HR := hid hr
  have HV := hid hv
  have HN := hid hN
  clear hr hv hN hi1 hy0 hy1 hy2
  have hmk := run_make_row' (P := Tryd.prog) 25 45 (.int .u64 0) 8 Tryd.underlying25 Tryd.infoM rfl .i64 .i64 N (by omega) (by omega)
  go_enter Tryd.func56, Tryd.ntmps56
  go_wp2_with fail
  clear hmk
  go_loopg [12] N (fun q x wr => ∃ k : Nat, k ≤ N ∧ q = N - k ∧ x = .int .i64 (k : Int) ∧ Hid (Made w wr N (fun j => if j < k then levQ f 0 j else 0)))
  case atStart => exact ⟨0, by omega, rfl, rfl, hid ((Made.start w N 45).congr fun j _ => by rw [if_neg (by omega)])⟩
  case round =>
    obtain ⟨k, hk, rfl, rfl, HM⟩ := hrel
    by_cases hlt : k < N
    · have c1 := HM.out.old HR.out k hlt
      have c3 := HM.out.cell k hlt
      have f3 := HM.out.frozen k hlt
      rw [if_neg (by omega)] at c3
      have hBlt : w.heap.size < wr.heap.size := HM.out.row.lt (by omega)
      obtain ⟨x, hx⟩ : ∃ x, f k = x := ⟨_, rfl⟩
      have bx := HV.out k
      rw [hx] at c1 bx
      obtain ⟨x0, x1⟩ := bx
      have HXY : Hid (prQ x 0 = levQ f 0 k) := hid (by rw [← hx]; rfl)
      clear hx
      have HP := hid (leafRoot_any x wr x0 x1)
      have k0 : (0 : Int) ≤ (k : Int) := by omega
      have k1 : (k : Int) < (N : Int) := by omega
      go_wp2_with (go_at_call 58; refine (HP.out).mono ?_; rintro e w1 ⟨rfl, hb⟩; have c4 := (hb.cell (p := ⟨w.heap.size, k, none⟩) hBlt).trans c3; have f4 := (hb.frozen (p := ⟨w.heap.size, k, none⟩) hBlt).trans f3; have HB := hid hb; clear hb)
      go_roundg (N - (k + 1))
      case measure => go_light; omega
      case rel => exact ⟨k + 1, by omega, rfl, by go_num, hid (((HM.out.held (by omega) HB.out).store k _ hlt).congr fun j _ => lev_step _ k j _ HXY.out)⟩
    · have e : k = N := by omega
      subst e
      have hBlt : w.heap.size < wr.heap.size := HM.out.row.lt (by omega)
      have HO : Hid (OwnV (wr.alloc (.cells #[.slice (some ⟨w.heap.size, 0, none⟩) k k] 25)) w.heap.size (.slice (some ⟨wr.heap.size, 0, none⟩) 1 1) 1 (fun _ => some ⟨w.heap.size, 0, none⟩) (fun t => 2 ^ (n - t)) (fun _ => k) (levQ f)) := hid ((OwnV.one wr w.heap.size (some ⟨w.heap.size, 0, none⟩) k k (levQ f 0) (by omega) (fun x hx => by injection hx with hx; subst hx; exact hBlt) (PRow.of (HM.out.row.congr fun j hj => by rw [if_pos hj]))).congr (fun _ _ => rfl) (fun i hi => by rw [show i = 0 from by omega, HN.out, Nat.sub_zero]) (fun _ _ => rfl) (fun i j hi _ => by rw [show i = 0 from by omega]))
      have HB := hid (HM.out.below.alloc (by omega) (.cells #[.slice (some ⟨w.heap.size, 0, none⟩) k k] 25))
      have HR0 : Hid (Row (wr.alloc (.cells #[.slice (some ⟨w.heap.size, 0, none⟩) k k] 25)) w.heap.size 0 k (levQ f 0)) := hid ((HM.out.row.congr fun j hj => by rw [if_pos hj]).kept ((Below.refl wr.heap.size wr).alloc (Nat.le_refl _) _) hBlt)
      clear hBlt HM HR
      go_wp2_with fail
      generalize wr.alloc (.cells #[.slice (some ⟨w.heap.size, 0, none⟩) k k] 25) = W0 at HO HB HR0 ⊢
      go_loopg [3, 6] n (fun q r a ws => ∃ (t g c v v2 m : Nat) (A : Nat → Option Addr) (C : Nat → Nat), t ≤ n ∧ q = n - t ∧ r = .slice (some ⟨g, 0, none⟩) m m ∧ a = .slice (some ⟨v, 0, none⟩) (t + 1) c ∧ 1 ≤ m ∧ m ≤ 256 ∧ Hid (m = 2 ^ (n - t)) ∧ Hid (Row ws g 0 m (levQ f t)) ∧ Hid (OwnV ws w.heap.size (.slice (some ⟨v, 0, none⟩) (t + 1) c) (t + 1) A (fun t => 2 ^ (n - t)) C (levQ f)) ∧ Hid (Below w.heap.size w ws))
      case atStart => exact ⟨0, _, _, _, 0, k, _, _, by omega, rfl, rfl, rfl, hN1, hN2, hid HN.out, HR0, HO, HB⟩
      case round =>
        clear HO HB HR0
        obtain ⟨t, g, c, v, v2, m, A, C, ht, rfl, rfl, rfl, hm1, hm2, HM2, HRt, HO, HB⟩ := hrel
        by_cases hlt : t < n
        · obtain ⟨h, rfl, hh1⟩ := half_of2 hlt HM2.out
          have HH : Hid (h = 2 ^ (n - (t + 1))) := hid (by have := HM2.out; rw [show n - t = (n - (t + 1)) + 1 from by omega, Nat.pow_succ] at this; omega)
          have HPD := hid (paired_ok g 0 h (2 * h) (levQ f t) wr hh1 (by omega) HRt.out (fun j => by have := levQ_rng f t j; omega))
          have g1 : (1 : Int) < ((2 * h : Nat) : Int) := by omega
          have g2 : (1 : Int) < 2 * (h : Int) := by omega
          go_wp2_with (first
            | (go_at_call 85; refine (HPD.out).mono ?_; rintro e w1 ⟨rfl, hm⟩; have HO1 := hid (HO.out.kept hm.below); have HB1 := hid (HB.out.trans (hm.below.mono HB.out.size)); have HMD := hid hm; clear hm)
            | (at_builtin; refine wpList_append_lies _ rfl _ _ 70 rfl w.heap.size 25 i1 (.slice none 0 0) 1 24 Tryd.underlying70 HJ.out.1 HJ.out.2.1 HJ.out.2.2.1 HJ.out.2.2.2 rfl (by decide) _ _ _ rfl (World.ownsRow.alloc HO1.out.own _) ⟨w1.heap.size, 0, none⟩ 1 1 [.slice (some ⟨wr.heap.size, 0, none⟩) h h] rfl rfl ?qc2 ?qc3 ?qc4 ?qc5 ?qc6 ?qc7 (w1.heap.size + 1) ?qc8 ?_))
          case qc2 =>
            intro j u hj
            match j, hj with
            | 0, hj => simp at hj; subst hj; simp [Addr.add]
          case qc3 => intro u hu; simp at hu; subst hu; rfl
          case qc4 => omega
          case qc5 => unfold maxLen; omega
          case qc6 => omega
          case qc7 => have := HB1.out.size; simp; omega
          case qc8 => simp
          intro g2 c2 w6 hown2 hgrow2 hat2 hlt3
          have hbn := (Below.refl w1.heap.size w1).alloc (Nat.le_refl _) (.cells #[.slice (some ⟨wr.heap.size, 0, none⟩) h h] 25)
          have hwlt : wr.heap.size < w1.heap.size := HMD.out.row.lt hh1
          have hrow := HMD.out.row.kept hbn hwlt
          have hfar : ∀ a, some (⟨wr.heap.size, 0, none⟩ : Addr) = some a → (Value.slice (some ⟨v, 0, none⟩) (t + 1) c).ownBlock ≠ some a.block := fun a ha => by injection ha with ha; subst ha; exact HO.out.far (Nat.le_refl _)
          have hnext := (HO1.out.kept hbn).next hown2 hgrow2 (by simpa using hat2) (fun a ha => by injection ha with ha; subst ha; simp; omega) hfar (PRow.of hrow)
          have hg2 : wr.heap.size ≠ g2 := fun e => by have h1 := hnext.apart (t + 1) (by omega) ⟨wr.heap.size, 0, none⟩ (by rw [putO, if_pos rfl]); exact h1 (by rw [e]; rfl)
          have HR6 : Hid (Row w6 wr.heap.size 0 h (levQ f (t + 1))) := hid (fun j hj => (World.cell?_of_block (hgrow2.block wr.heap.size (by simp; omega) (fun e => HO.out.far (Nat.le_refl _) e.symm))).trans (hrow j hj))
          have HO6 : Hid (OwnV w6 w.heap.size (.slice (some ⟨g2, 0, none⟩) (t + 1 + 1) c2) (t + 1 + 1) (putO A (t + 1) (some ⟨wr.heap.size, 0, none⟩)) (fun t => 2 ^ (n - t)) (putA C (t + 1) h) (levQ f)) := hid (hnext.congr (fun _ _ => rfl) (fun i hi => by unfold putA; by_cases e : i = t + 1 <;> simp [e, HH.out]) (fun _ _ => rfl) (fun i j _ _ => by unfold putF; by_cases e : i = t + 1 <;> simp [e, levQ]))
          have HB6 : Hid (Below w.heap.size w w6) := hid ((HB1.out.alloc HB1.out.size _).grown hgrow2 (by have := HB1.out.size; simp; omega) (by intro t ht; exact (World.ownsRow.lt HO1.out.own t ht).1))
          clear hown2 hgrow2 hat2 hlt3 hbn hrow hfar hnext hg2
          go_wp2_with fail
          go_roundg (n - (t + 1))
          case measure => go_light; omega
          case rel => exact ⟨t + 1, _, _, _, 0, h, _, _, by omega, rfl, rfl, rfl, hh1, by omega, HH, HR6, HO6, HB6⟩
        · have e : t = n := by omega
          subst e
          have hm : m = 1 := by have := HM2.out; rw [Nat.sub_self, Nat.pow_zero] at this; exact this
          subst hm
          go_wp2_with fail
          go_ret
          obtain ⟨ao, cc, e, hc, hl⟩ := HO.out.is
          exact ⟨ao, cc, A, C, by rw [e]; rfl, hc, ⟨hl⟩, HB.out⟩

theorem lev_in {n k i : Nat} (hk : k < n) (hi : i < 2 ^ n) : sib (i / 2 ^ k) < 2 ^ (n - k) ∧ i / 2 ^ k < 256 ∨ 8 < n := by
  by_cases h8 : 8 < n
  · exact .inr h8
  · left
    have e : 2 ^ n = 2 ^ k * 2 ^ (n - k) := by rw [← Nat.pow_add]; congr 1; omega
    have h1 : i / 2 ^ k < 2 ^ (n - k) := by
      rw [Nat.div_lt_iff_lt_mul (Nat.two_pow_pos k), Nat.mul_comm, ← e]; exact hi
    have h2 : 2 ^ (n - k) = 2 * 2 ^ (n - k - 1) := by rw [show n - k = (n - k - 1) + 1 from by omega, two_pow_succ]; simp; omega
    have h3 : 2 ^ (n - k) ≤ 2 ^ 8 := Nat.pow_le_pow_right (by omega) (by omega)
    rw [h2] at h1 ⊢
    exact ⟨sib_lt h1, by omega⟩
set_option maxHeartbeats 4000000 in
set_option maxRecDepth 100000 in
theorem pathIn_ok (n N i cap : Nat) (ao : Option Addr) (A : Nat → Option Addr) (C : Nat → Nat) (f : Nat → Int) (w : World) (hn : n ≤ 8) (hN : N = 2 ^ n) (hi : i < N) (hr : Rws w ao n A C f) :
    Calls Tryd.prog 86 #[.slice ao (n + 1) cap, .int .i64 (i : Int)] w fun e w' => e = .returned (.slice (some ⟨w.heap.size, 0, none⟩) n n) ∧ Made w w' n (pathQ n f i) ∧ w.heap.size < w'.heap.size := by
  have HRW := hid hr
  have HI := hid (hN ▸ hi)
  have hN2 : N ≤ 256 := by rw [hN]; exact pow_256 hn
  have hi2 : i < 256 := by omega
  clear hr hN hi hN2
  have s1 : IntKind.i64.wrap (((n + 1 : Nat) : Int) - 1) = (n : Int) := by rw [show ((n + 1 : Nat) : Int) - 1 = (n : Int) from by omega]; exact IntWalk.i64_in _ (by omega)
  have hmk := run_make_row' (P := Tryd.prog) 25 45 (.int .u64 0) 8 Tryd.underlying25 Tryd.infoM rfl .i64 .i64 n (by omega) (by omega)
  go_enter Tryd.func86, Tryd.ntmps86
  go_wp2_with fail
  clear hmk
  go_loopg [13] n (fun q x wr => ∃ k : Nat, k ≤ n ∧ q = n - k ∧ x = .int .i64 (k : Int) ∧ Hid (Made w wr n (fun j => if j < k then pathQ n f i j else 0)) ∧ Hid (w.heap.size < wr.heap.size))
  case atStart => exact ⟨0, by omega, rfl, rfl, hid ((Made.start w n 45).congr fun j _ => by rw [if_neg (by omega)]), hid (by simp)⟩
  case round =>
    obtain ⟨k, hk, rfl, rfl, HM, HS⟩ := hrel
    by_cases hlt : k < n
    · obtain ⟨ba, oa, rfl, hat⟩ := (HRW.out.kept HM.out.below).at
      obtain ⟨b2, o2, hc2, hr2⟩ := hat k (by omega)
      have hin : sib (i / 2 ^ k) < 2 ^ (n - k) ∧ i / 2 ^ k < 256 := by
        rcases lev_in hlt HI.out with h | h
        · exact h
        · omega
      have hy : pathQ n f i k = levQ f k (sib (i / 2 ^ k)) := path_lev n f i k HI.out hlt
      obtain ⟨m, hm⟩ : ∃ m : Nat, i / 2 ^ k = m := ⟨_, rfl⟩
      have hmi : (i : Int) / 2 ^ k = (m : Int) := by rw [← hm]; simp
      rw [hm] at hin hy
      obtain ⟨hs1, hm1⟩ := hin
      have hx := xor_sib m hm1
      have c1 := hr2 (sib m) hs1
      rw [← hy] at c1
      obtain ⟨s, hs⟩ : ∃ s, sib m = s := ⟨_, rfl⟩
      rw [hs] at hx c1 hs1
      obtain ⟨L, hL⟩ : ∃ L, 2 ^ (n - k) = L := ⟨_, rfl⟩
      rw [hL] at hc2 hs1
      obtain ⟨y, hyy⟩ : ∃ y, pathQ n f i k = y := ⟨_, rfl⟩
      rw [hyy] at c1
      have HY := hid hyy.symm
      have c3 := HM.out.cell k hlt
      have f3 := HM.out.frozen k hlt
      rw [if_neg (by omega)] at c3
      clear hy hyy hm hs hL hr2 hat
      have k0 : (0 : Int) ≤ (k : Int) := by omega
      have k1 : (k : Int) < (n : Int) := by omega
      have k2 : (k : Int) < ((n + 1 : Nat) : Int) := by omega
      have k3 : (k : Int) < (n : Int) + 1 := by omega
      have k4 : (0 : Int) ≤ (s : Int) := by omega
      have k5 : (s : Int) < (L : Int) := by omega
      go_wp2_with fail
      go_region
      all_goals (go_wp2_with fail)
      all_goals (go_roundg (n - (k + 1)))
      all_goals first | (go_light; omega) | skip
      all_goals exact ⟨k + 1, by omega, rfl, by go_num, hid (((HM.out.store k _ hlt).congr fun j _ => lev_step _ k j _ HY.out).drew), hid (by have := HS.out; simpa using this)⟩
    · have e : k = n := by omega
      subst e
      go_wp2_with fail
      go_ret
      exact ⟨rfl, HM.out.congr fun j hj => by rw [if_pos hj], HS.out⟩

set_option maxHeartbeats 8000000 in
set_option maxRecDepth 100000 in
theorem tpaths_ok (n N b off cap np cp : Nat) (ap : Option Addr) (f : Nat → Int) (pl : Nat → Nat) (w : World) (hn : n ≤ 8) (hN : N = 2 ^ n) (ht : Tab w) (hr : Row w b off N f) (hv : Nums f) (hm : np ≤ 1000) (hp : IRowP w ap np fun j => (pl j : Int)) (hi : ∀ j, j < np → pl j < N) :
    Calls Tryd.prog 57 #[.slice (some ⟨b, off, none⟩) N cap, .slice ap np cp] w fun e w' => ∃ W a, e = .returned (.tuple #[.slice (some ⟨W.heap.size, 0, none⟩) np np, .int .i64 0]) ∧ Below w.heap.size w W ∧ Lays W w' np np n a (fun k => pathQ n f (pl k)) := by
  have HVA := hid (vars_ok (some ⟨b, off, none⟩) n N cap w hn hN ht)
  have HRO := hid (rows_ok n N b off cap f w hn hN hr hv)
  have HN := hid hN
  have HP := hid hp
  have HI := hid hi
  have hN2 : N ≤ 256 := by rw [hN]; exact pow_256 hn
  clear ht hr hv hN hp hi
  go_enter Tryd.func57, Tryd.ntmps57
  go_wp2_with (go_at_call 55; refine (HVA.out).mono ?_; rintro e w' ⟨rfl, hw⟩; obtain rfl := hw.symm)
  clear HVA
  go_loopg [24] np (fun q x wr => ∃ k : Nat, k ≤ np ∧ q = np - k ∧ x = .int .i64 (k : Int) ∧ Hid (wr = w))
  case atStart => exact ⟨0, by omega, rfl, rfl, hid rfl⟩
  case round =>
    obtain ⟨k, hk, rfl, rfl, HW⟩ := hrel
    obtain rfl := HW.out
    by_cases hlt : k < np
    · obtain ⟨bp, op, rfl, hrp⟩ := HP.out (by omega)
      have c1 := hrp k hlt
      have hq := HI.out k hlt
      dsimp only at c1
      obtain ⟨p, hpp⟩ : ∃ p, pl k = p := ⟨_, rfl⟩
      rw [hpp] at c1 hq
      clear hrp hpp
      have k0 : (0 : Int) ≤ (k : Int) := by omega
      have k1 : (k : Int) < (np : Int) := by omega
      have p0 : ¬ (p : Int) < 0 := by omega
      have p1 : ¬ (N : Int) ≤ (p : Int) := by omega
      have d1 : decide (N ≤ p) = false := decide_eq_false (by omega)
      have d2 : decide ((p : Int) < 0) = false := decide_eq_false (by omega)
      have d3 : ¬ N ≤ p := by omega
      go_wp2_with fail
      go_roundg (np - (k + 1))
      case measure => go_light; omega
      case rel => exact ⟨k + 1, by omega, rfl, by go_num, hid rfl⟩
    · have e : k = np := by omega
      subst e
      clear HW
      have hmk := run_make_row' (P := Tryd.prog) 70 25 (.slice none 0 0) 24 Tryd.underlying70 Tryd.infoL rfl .i64 .i64 k (by omega) (by omega)
      go_wp2_with (go_at_call 56; refine (HRO.out).mono ?_; rintro e w1 ⟨ao, c, A, C, rfl, hc, hrw, hb⟩; have HRW := hid hrw; have HB := hid hb; clear hrw hb)
      clear hmk HRO
      have HST := hid (Lays.start w1 k n (fun _ => 0) (fun k => pathQ n f (pl k)) 25)
      go_loopg [44] k (fun q x ws => ∃ (t : Nat) (a : Nat → Nat), t ≤ k ∧ q = k - t ∧ x = .int .i64 (t : Int) ∧ Hid (Lays w1 ws k t n a (fun k => pathQ n f (pl k))))
      case atStart => exact ⟨0, _, by omega, rfl, rfl, HST⟩
      case round =>
        clear HST
        obtain ⟨t, a, htk, rfl, rfl, HY⟩ := hrel
        by_cases hlt : t < k
        · obtain ⟨bp, op, rfl, hrp⟩ := ((HP.out.kept HB.out).kept HY.out.below) (by omega)
          have c1 := hrp t hlt
          have hq := HI.out t hlt
          dsimp only at c1
          have HPI := hid (pathIn_ok n N (pl t) c ao A C f wr hn HN.out hq (HRW.out.kept HY.out.below))
          obtain ⟨p, hpp⟩ : ∃ p, pl t = p := ⟨_, rfl⟩
          rw [hpp] at c1 hq HPI
          have HPP := hid hpp
          have c2 := HY.out.todo t (Nat.le_refl _) hlt
          have f2 := HY.out.free t hlt
          clear hrp hpp
          have k0 : (0 : Int) ≤ (t : Int) := by omega
          have k1 : (t : Int) < (k : Int) := by omega
          go_wp2_with (go_at_call 86; refine (HPI.out).mono ?_; rintro e w3 ⟨rfl, hm3, hs3⟩; have c4 := (hm3.below.cell HY.out.lt).trans c2; have f4 := (hm3.below.frozen HY.out.lt).trans f2; have HM3 := hid hm3; have HS3 := hid hs3; clear hm3 hs3)
          go_roundg (k - (t + 1))
          case measure => go_light; omega
          case rel => exact ⟨t + 1, _, by omega, rfl, by go_num, hid ((HY.out.more hlt HS3.out HM3.out.below (Nat.le_refl _) HM3.out.row HM3.out.free).congr fun i j _ _ => by rw [← HPP.out]; unfold putF; by_cases e : i = t <;> simp [e])⟩
        · have e : t = k := by omega
          subst e
          go_wp2_with fail
          go_ret2
          exact ⟨w1, a, rfl, HB.out, HY.out⟩

set_option maxHeartbeats 1000000 in
theorem tpaths_form (ao ap : Option Addr) (N cap np cp : Nat) (w : World) (h : ∀ n, n ≤ 8 → N ≠ 2 ^ n) (hmax : N ≤ maxLen) :
    Calls Tryd.prog 57 #[.slice ao N cap, .slice ap np cp] w fun e w' => e = .returned (.tuple #[.slice none 0 0, .int .i64 4]) ∧ Below w.heap.size w w' := by
  have HV := hid (vars_bad ao N cap w h hmax)
  clear h
  go_enter Tryd.func57, Tryd.ntmps57
  go_wp2_with (go_at_call 55; refine (HV.out).mono ?_; rintro e w' ⟨rfl, hw⟩; obtain rfl := hw.symm)
  go_ret2
  exact ⟨rfl, Below.refl _ _⟩
set_option maxHeartbeats 4000000 in
/-- Of one place that isn't there. -/
theorem tpaths_arg1 (n N cap b : Nat) (ao : Option Addr) (x : Int) (w : World) (hn : n ≤ 8) (hN : N = 2 ^ n) (ht : Tab w) (hx : x < 0 ∨ (N : Int) ≤ x) (hp : w.cell? ⟨b, 0, none⟩ = some (.int .i64 x)) :
    Calls Tryd.prog 57 #[.slice ao N cap, .slice (some ⟨b, 0, none⟩) 1 1] w fun e w' => e = .returned (.tuple #[.slice none 0 0, .int .i64 1]) ∧ Below w.heap.size w w' := by
  have HV := hid (vars_ok ao n N cap w hn hN ht)
  clear hN ht
  go_enter Tryd.func57, Tryd.ntmps57
  go_wp2_with (go_at_call 55; refine (HV.out).mono ?_; rintro e w' ⟨rfl, hw⟩; obtain rfl := hw.symm)
  clear HV
  go_loopg [24] 1 (fun q x wr => q = 1 ∧ x = .int .i64 0 ∧ Hid (wr = w))
  case atStart => exact ⟨rfl, rfl, hid rfl⟩
  case round =>
    obtain ⟨rfl, rfl, HW⟩ := hrel
    obtain rfl := HW.out
    by_cases hneg : x < 0
    · have d2 : decide (x < 0) = true := decide_eq_true hneg
      clear hx
      go_wp2_with fail
      go_ret2
      exact ⟨rfl, Below.refl _ _⟩
    · have h3 : (N : Int) ≤ x := by omega
      have d2 : decide (x < 0) = false := decide_eq_false hneg
      clear hx
      go_wp2_with fail
      go_ret2
      exact ⟨rfl, Below.refl _ _⟩

set_option maxHeartbeats 4000000 in
theorem troot_any (n N b off cap : Nat) (f : Nat → Int) (w : World) (hn : n ≤ 8) (hN : N = 2 ^ n) (ht : Tab w) (hr : Row w b off N f) (hv : Nums f) :
    Calls Tryd.prog 24 #[.slice (some ⟨b, off, none⟩) N cap] w fun e w' => e = .returned (.tuple #[.int .u64 (rootQ n f), .int .i64 0]) ∧ Below w.heap.size w w' := by
  have HV := hid (vars_ok (some ⟨b, off, none⟩) n N cap w hn hN ht)
  have HR := hid (rows_ok n N b off cap f w hn hN hr hv)
  clear hN hr hv ht
  have k0 : (0 : Int) ≤ (n : Int) := by omega
  have k1 : (n : Int) < ((n + 1 : Nat) : Int) := by omega
  have k2 : (n : Int) < (n : Int) + 1 := by omega
  go_enter Tryd.func24, Tryd.ntmps24
  go_wp2_with (go_at_call 55; refine (HV.out).mono ?_; rintro e w' ⟨rfl, hw⟩; obtain rfl := hw.symm)
  refine (HR.out).mono ?_
  rintro e w1 ⟨ao, c, A, C, rfl, hc1, hrw, hb⟩
  obtain ⟨ba, oa, rfl, hat⟩ := hrw.at
  obtain ⟨b2, o2, hc2, hr2⟩ := hat n (Nat.le_refl n)
  rw [Nat.sub_self, Nat.pow_zero] at hc2 hr2
  have c2 := hr2 0 (by omega)
  rw [Nat.add_zero] at c2
  have HE := hid (lev_top f n)
  have HB := hid hb
  clear hrw hb hat hr2
  go_wp2_with fail
  go_ret2
  exact ⟨ret_u64_err HE.out, HB.out⟩
theorem troot_ok (n N b off cap : Nat) (f : Nat → Int) (w : World) (hn : n ≤ 8) (hN : N = 2 ^ n) (hc : N ≤ cap) (ht : Tab w) (hr : Row w b off N f) (hv : Nums f) :
    Calls Tryd.prog 24 #[.slice (some ⟨b, off, none⟩) N cap] w fun e w' => e = .returned (.tuple #[.int .u64 (rootQ n f), .int .i64 0]) ∧ Below w.heap.size w w' := troot_any n N b off cap f w hn hN ht hr hv
set_option maxHeartbeats 1000000 in
theorem troot_form (ao : Option Addr) (N cap : Nat) (w : World) (h : ∀ n, n ≤ 8 → N ≠ 2 ^ n) (hmax : N ≤ maxLen) :
    Calls Tryd.prog 24 #[.slice ao N cap] w fun e w' => e = .returned (.tuple #[.int .u64 0, .int .i64 4]) ∧ Below w.heap.size w w' := by
  have HV := hid (vars_bad ao N cap w h hmax)
  clear h
  go_enter Tryd.func24, Tryd.ntmps24
  go_wp2_with (go_at_call 55; refine (HV.out).mono ?_; rintro e w' ⟨rfl, hw⟩; obtain rfl := hw.symm)
  go_ret2
  exact ⟨rfl, Below.refl _ _⟩
end Go.Proofs.YtmjpcmeinlkfbaaDoor
