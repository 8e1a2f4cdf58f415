/-
  A contract of package circuit's Run, for every circuit and every list of inputs; it makes new blocks and writes nothing that was there.
-/
import Derived.Test.YtnnjajmkfgnhcaaDoorCircR
import Derived.Test.YtnnjajmkfgnhcaaDoorCircL
import Derived.Test.YtnnjajmkfgnhcaaDoorOwn
import Derived.Deep.RegionHeld3
namespace Go.Proofs.YtnnjajmkfgnhcaaDoor
open Go.RowKit Go.Deep
set_option linter.unusedVariables false
attribute [local go_sem ↓] Go.wp_at_zero Go.wp_at_succ

theorem Tryd.infoRL : (Tryd.prog.info? 22).map (fun i => (i.zero, i.size, i.bytes)) = some (some (.slice none 0 0), 1, 24) := by kernel_rfl
/-- A list of m lists of the call's own at block V: k of them are stored, in blocks of their own. -/
structure OutL (w w' : World) (V m k : Nat) (L A : Nat → Nat) (F : Nat → Nat → Int) : Prop where
  below : Below w.heap.size w w'
  cell : ∀ i, i < k → w'.cell? ⟨V, i, none⟩ = some (.slice (some ⟨A i, 0, none⟩) (L i) (L i))
  zero : ∀ i, k ≤ i → i < m → w'.cell? ⟨V, i, none⟩ = some (.slice none 0 0)
  free : ∀ i, i < m → w'.frozen? ⟨V, i, none⟩ = false
  ge : w.heap.size ≤ V
  lt : V < w'.heap.size
  row : ∀ i, i < k → Row w' (A i) 0 (L i) (F i)
  own : ∀ i, i < k → w.heap.size ≤ A i ∧ A i < w'.heap.size ∧ A i ≠ V
  may : ∀ i, i < k → Free w' (A i) 0 (L i)
theorem OutL.start {w w0 : World} (hb : Below w.heap.size w w0) (m : Nat) (t : TypeId) (L A : Nat → Nat) (F : Nat → Nat → Int) : OutL w (w0.alloc (.cells (madeCells #[.slice none 0 0] m) t)) w0.heap.size m 0 L A F :=
  ⟨hb.alloc hb.size _, fun i hi => absurd hi (by omega), fun i _ hi => by rw [World.cell?_alloc_new]; simp [madeCells, hi, Nat.mod_one], fun i _ => by rw [World.frozen?_alloc_new], hb.size, by simp, fun i hi => absurd hi (by omega), fun i hi => absurd hi (by omega), fun i hi => absurd hi (by omega)⟩
theorem OutL.kept {w w1 w2 : World} {V m k : Nat} {L A : Nat → Nat} {F : Nat → Nat → Int} (h : OutL w w1 V m k L A F) (hb : Below w1.heap.size w1 w2) : OutL w w2 V m k L A F :=
  ⟨h.below.trans (hb.mono h.below.size), fun i hi => (hb.cell h.lt).trans (h.cell i hi), fun i h1 h2 => (hb.cell h.lt).trans (h.zero i h1 h2), fun i hi => (hb.frozen h.lt).trans (h.free i hi), h.ge, Nat.lt_of_lt_of_le h.lt hb.size,
    fun i hi => (h.row i hi).kept hb (h.own i hi).2.1, fun i hi => ⟨(h.own i hi).1, Nat.lt_of_lt_of_le (h.own i hi).2.1 hb.size, (h.own i hi).2.2⟩, fun i hi => (h.may i hi).kept hb (h.own i hi).2.1⟩
/-- One list more is stored. -/
theorem OutL.put {w w1 : World} {V m k : Nat} {L A : Nat → Nat} {F : Nat → Nat → Int} (h : OutL w w1 V m k L A F) (hk : k < m) {U : Nat} (hl : w.heap.size ≤ U) (hu : U < w1.heap.size) (hne : U ≠ V) (hr : Row w1 U 0 (L k) (F k)) (hf : Free w1 U 0 (L k)) :
    OutL w (w1.setCell ⟨V, k, none⟩ (.slice (some ⟨U, 0, none⟩) (L k) (L k))) V m (k + 1) L (putA A k U) F := by
  have far : ∀ (b : Nat), b ≠ V → (w1.setCell ⟨V, k, none⟩ (.slice (some ⟨U, 0, none⟩) (L k) (L k))).heap[b]? = w1.heap[b]? := fun b hb => Below.heap_setCell _ _ _ _ hb
  refine ⟨h.below.setCell h.ge _, fun i hi => ?_, fun i h1 h2 => ?_, fun i hi => by rw [World.frozen?_setCell]; exact h.free i hi, h.ge, by rw [World.size_setCell]; exact h.lt, fun i hi => ?_, fun i hi => ?_, fun i hi j hj => ?_⟩
  · by_cases e : i = k
    · subst e
      rw [World.cell?_setCell_same _ _ _ (h.zero i (Nat.le_refl _) hk), putA, if_pos rfl]
    · rw [World.cell?_setCell_other _ _ _ _ (by intro e2; simp only [Addr.mk.injEq] at e2; omega), putA, if_neg e]
      exact h.cell i (by omega)
  · rw [World.cell?_setCell_other _ _ _ _ (by intro e2; simp only [Addr.mk.injEq] at e2; omega)]
    exact h.zero i (by omega) h2
  · by_cases e : i = k
    · subst e
      rw [putA, if_pos rfl]
      exact fun j hj => (World.cell?_of_block (w := w1) (far U hne)).trans (hr j hj)
    · rw [putA, if_neg e]
      exact fun j hj => (World.cell?_of_block (w := w1) (far _ (h.own i (by omega)).2.2)).trans (h.row i (by omega) j hj)
  · rw [World.size_setCell]
    by_cases e : i = k
    · rw [putA, if_pos e]; exact ⟨hl, hu, hne⟩
    · rw [putA, if_neg e]; exact h.own i (by omega)
  · rw [World.frozen?_setCell]
    by_cases e : i = k
    · subst e
      rw [putA, if_pos rfl]
      exact hf j hj
    · rw [putA, if_neg e]
      exact h.may i (by omega) j hj
theorem OutL.lists {w w1 : World} {V m : Nat} {L A : Nat → Nat} {F : Nat → Nat → Int} (h : OutL w w1 V m m L A F) : LRow w1 (some ⟨V, 0, .none⟩) m (fun i => some ⟨A i, 0, .none⟩) L L F :=
  fun _ => ⟨V, 0, rfl, fun i hi => ⟨by rw [Nat.zero_add]; exact h.cell i hi, PRow.of (h.row i hi)⟩⟩

set_option maxHeartbeats 1000000 in
theorem run_bad (c : CQ) (g : Int) (ao : Option Addr) (n cap : Nat) (A : Nat → Option Addr) (C : Nat → Nat) (ad : Option Addr) (k kc : Nat) (x : Int) (w : World) (hg : c.log = g) (hn : c.layers.length = n) (hr : CRow w ao c.layers A C) (hx : checkE c x) (hx0 : x ≠ 0) :
    Calls Tryd.prog 21 #[.agg #[.int .i64 g, .slice ao n cap], .slice ad k kc] w fun e w' => e = .returned (.tuple #[.slice none 0 0, .int .i64 x]) ∧ Below w.heap.size w w' := by
  have hal := (Below.refl w.heap.size w).alloc (Nat.le_refl _) (.cells #[.int .i64 g, .slice ao n cap] 46)
  have HC := hid (check_any c g ao n cap A C _ hg hn (hr.kept hal))
  have HX := hid hx
  have HAL := hid hal
  have e1 : (x != 0) = true := by simp [hx0]
  clear hr hx hal hg hn
  go_enter Tryd.func21, Tryd.ntmps21
  go_wp2_with fail
  refine (HC.out).mono ?_
  rintro e w1 ⟨y, rfl, hy, hb⟩
  obtain rfl := checkE_one hy HX.out
  have HB := hid (HAL.out.trans (hb.mono HAL.out.size))
  clear hb hy HX HC HAL
  go_wp2_with fail
  go_ret2
  exact ⟨rfl, HB.out⟩
set_option maxHeartbeats 1000000 in
theorem run_form (c : CQ) (g : Nat) (ao : Option Addr) (n cap : Nat) (A : Nat → Option Addr) (C : Nat → Nat) (ad : Option Addr) (k kc N : Nat) (w : World) (hg : c.log = (g : Int)) (hn : c.layers.length = n) (hr : CRow w ao c.layers A C) (hc : c.right) (sh : wrap64 ((2 : Int) ^ g) = (N : Int)) (hk : k ≠ N) :
    Calls Tryd.prog 21 #[.agg #[.int .i64 (g : Int), .slice ao n cap], .slice ad k kc] w fun e w' => e = .returned (.tuple #[.slice none 0 0, .int .i64 4]) ∧ Below w.heap.size w w' := by
  have hal := (Below.refl w.heap.size w).alloc (Nat.le_refl _) (.cells #[.int .i64 (g : Int), .slice ao n cap] 46)
  have g4 : g ≤ 4 := by have := hc.log; omega
  have HC := hid (check_any c (g : Int) ao n cap A C _ hg hn (hr.kept hal))
  have HX0 := hid (Box2.new w (.int .i64 (g : Int)) (.slice ao n cap) 46)
  have HX := hid (checkE_zero.2 hc)
  have HAL := hid hal
  have e1 : ((k : Int) != (N : Int)) = true := by simp; omega
  clear hr hc hal hg hn hk
  go_enter Tryd.func21, Tryd.ntmps21
  go_wp2_with fail
  refine (HC.out).mono ?_
  rintro e w1 ⟨y, rfl, hy, hb⟩
  obtain rfl := checkE_one hy HX.out
  have HB := hid (HAL.out.trans (hb.mono HAL.out.size))
  obtain ⟨z0, z1, zl⟩ := HX0.out.kept hb
  clear hb hy HX HC HAL HX0
  go_wp2_with fail
  go_ret2
  exact ⟨rfl, HB.out⟩

set_option maxHeartbeats 1000000 in
set_option maxRecDepth 100000 in
theorem run_ok (c : CQ) (g b off n cap : Nat) (A : Nat → Option Addr) (C : Nat → Nat) (db doff N kc : Nat) (f : Nat → Int) (w : World) (hg : c.log = (g : Int)) (hn : c.layers.length = n) (hr : CRow w (some ⟨b, off, none⟩) c.layers A C) (hc : c.right) (sh : wrap64 ((2 : Int) ^ g) = (N : Int)) (hN : lenQ c 0 = N) (N16 : N ≤ 16) (N1 : 1 ≤ N) (hi : Row w db doff N f) (hf : Nums f) :
    Calls Tryd.prog 21 #[.agg #[.int .i64 (g : Int), .slice (some ⟨b, off, none⟩) n cap], .slice (some ⟨db, doff, none⟩) N kc] w fun e w' => ∃ V D, e = .returned (.tuple #[.slice (some ⟨V, 0, none⟩) (n + 1) (n + 1), .int .i64 0]) ∧ OutL w w' V (n + 1) (n + 1) (lenQ c) D (valsQ c f) := by
  have hal := (Below.refl w.heap.size w).alloc (Nat.le_refl _) (.cells #[.int .i64 (g : Int), .slice (some ⟨b, off, none⟩) n cap] 46)
  have g4 : g ≤ 4 := by have := hc.log; omega
  have n4 : n ≤ 4 := by have := hc.few; omega
  have HC := hid (check_any c (g : Int) _ n cap A C _ hg hn (hr.kept hal))
  have HX0 := hid (Box2.new w (.int .i64 (g : Int)) (.slice (some ⟨b, off, none⟩) n cap) 46)
  have HX := hid (checkE_zero.2 hc)
  have HRT := hid hc
  have HAL := hid hal
  have HR := hid hr
  have HI := hid hi
  have HF := hid hf
  have HN := hid hn
  have HNN := hid hN
  have e1 : ((N : Int) != (N : Int)) = false := by simp
  clear hr hc hal hg hn hi hf hN
  go_enter Tryd.func21, Tryd.ntmps21
  go_wp2_with fail
  refine (HC.out).mono ?_
  rintro e w1 ⟨y, rfl, hy, hb⟩
  obtain rfl := checkE_one hy HX.out
  have HB := hid (HAL.out.trans (hb.mono HAL.out.size))
  obtain ⟨z0, z1, zl⟩ := HX0.out.kept hb
  obtain ⟨B, hB⟩ : ∃ B, w.heap.size = B := ⟨_, rfl⟩
  rw [hB] at z0 z1 zl ⊢
  clear hb hy HX HC HAL HX0 hB
  have hmk := run_make_row' (P := Tryd.prog) 50 22 (.slice none 0 0) 24 Tryd.underlying50 Tryd.infoRL rfl .i64 .i64 (n + 1) (by omega) (by omega)
  rw [show ((n + 1 : Nat) : Int) = (n : Int) + 1 from by omega] at hmk
  go_wp2_with fail
  clear hmk z0
  have HO0 := hid (OutL.start HB.out (n + 1) 22 (lenQ c) (fun _ => 0) (valsQ c f))
  have HZ1 : Hid ((w1.alloc (.cells (madeCells #[.slice none 0 0] (n + 1)) 22)).cell? ⟨B, 1, none⟩ = some (.slice (some ⟨b, off, none⟩) n cap) ∧ B < (w1.alloc (.cells (madeCells #[.slice none 0 0] (n + 1)) 22)).heap.size) := hid ⟨by rw [World.cell?_alloc_old _ _ _ (Nat.ne_of_lt zl)]; exact z1, by simp; omega⟩
  obtain ⟨V, hV⟩ : ∃ V, w1.heap.size = V := ⟨_, rfl⟩
  have hBV : B ≠ V := by omega
  rw [hV] at HO0 ⊢
  clear hV z1 zl
  generalize w1.alloc (.cells (madeCells #[.slice none 0 0] (n + 1)) 22) = W0 at HO0 HZ1 ⊢
  refine (rests_any db doff N kc f W0 (by omega) (fun j hj => by have := (PRow.of HI.out).kept HO0.out.below (by omega); obtain ⟨_, _, e, hr⟩ := this; cases e; exact hr j hj) HF.out).mono ?_
  rintro e w2 ⟨rfl, hm⟩
  have HO1 := hid (HO0.out.kept hm.below)
  have HZ2 := hid (And.intro ((hm.below.cell HZ1.out.2).trans HZ1.out.1) (Nat.lt_of_lt_of_le HZ1.out.2 hm.below.size))
  have HM := hid hm
  have hUV : W0.heap.size ≠ V := fun e => by have := HO0.out.lt; omega
  have hU : Hid (w.heap.size ≤ W0.heap.size ∧ W0.heap.size < w2.heap.size) := hid ⟨HO0.out.below.size, hm.row.lt (by omega)⟩
  have cv := HO1.out.zero 0 (by omega) (by omega)
  have fv := HO1.out.free 0 (by omega)
  obtain ⟨U, hUE⟩ : ∃ U, W0.heap.size = U := ⟨_, rfl⟩
  have HMR := hid hm.row
  have HMF := hid hm.free
  rw [hUE] at hU hUV HMR HMF ⊢
  clear hm HM hUE HO0 HZ1
  have n0 : (0 : Int) < (n : Int) + 1 := by omega
  obtain ⟨zz, zzl⟩ := HZ2.out
  go_wp2_with fail
  have HO2 : Hid (∃ D, OutL w (w2.setCell ⟨V, 0, none⟩ (.slice (some ⟨U, 0, none⟩) N N)) V (n + 1) (0 + 1) (lenQ c) D (valsQ c f)) := hid ⟨_, by
    have hp := HO1.out.put (by omega) hU.out.1 hU.out.2 hUV (by rw [HNN.out]; exact HMR.out.congr fun j _ => rfl) (by rw [HNN.out]; exact HMF.out)
    rw [HNN.out] at hp
    exact hp⟩
  generalize w2.setCell ⟨V, 0, none⟩ (.slice (some ⟨U, 0, none⟩) N N) = W2 at HO2 ⊢
  clear HO1 HZ2 HMR HMF hU hUV cv fv zz zzl hBV HB HI HF sh n0 e1
  go_loopg [33] n (fun q i wr => ∃ k : Nat, k ≤ n ∧ q = n - k ∧ i = .int .i64 (k : Int) ∧ Hid (∃ D, OutL w wr V (n + 1) (k + 1) (lenQ c) D (valsQ c f)))
  case atStart => exact ⟨0, by omega, rfl, rfl, HO2⟩
  case round =>
    clear HO2
    obtain ⟨k, hk, rfl, rfl, HO⟩ := hrel
    obtain ⟨D, hO⟩ := HO.out
    have HO := hid hO
    clear hO
    by_cases hlt : k < n
    · obtain ⟨l, hl⟩ : ∃ l, c.layers[k]? = some l := ⟨c.layers[k]'(by rw [HN.out]; exact hlt), by simp⟩
      obtain ⟨b', off', eb, hc⟩ := HR.out.kept HO.out.below (by intro e; have := HN.out; rw [e] at this; simp at this; omega)
      cases eb
      obtain ⟨y0, y1, y2, y3⟩ := hc k l hl
      rw [Nat.mul_comm 2 k] at y0 y1
      obtain ⟨lg, hlg⟩ : ∃ x, l.log = x := ⟨_, rfl⟩
      obtain ⟨m, hm⟩ : ∃ x, l.gates.length = x := ⟨_, rfl⟩
      obtain ⟨ga, hga⟩ : ∃ x, A k = x := ⟨_, rfl⟩
      obtain ⟨gc, hgc⟩ : ∃ x, C k = x := ⟨_, rfl⟩
      obtain ⟨nb, hnb⟩ : ∃ x, lenQ c k = x := ⟨_, rfl⟩
      obtain ⟨dk, hdk⟩ : ∃ x, D k = x := ⟨_, rfl⟩
      have cv := HO.out.cell k (by omega)
      have vl := HO.out.lt
      rw [hlg] at y0
      rw [hm, hga, hgc] at y1
      rw [hga] at y2
      rw [hdk, hnb] at cv
      have mr := lenQ_rng HRT.out (k + 1) (by rw [HN.out]; omega)
      have nr := lenQ_rng HRT.out k (by rw [HN.out]; omega)
      have hme := lenQ_layer HRT.out hl
      rw [hm] at hme
      rw [← hme] at mr
      rw [hnb] at nr
      have HC : Hid (∀ W, Below wr.heap.size wr W → Calls Tryd.prog 55 #[.agg #[.int .i64 lg, .slice ga m gc], .slice (some ⟨dk, 0, none⟩) nb nb] W fun e w' => ∃ U, e = .returned (.slice (some ⟨U, 0, none⟩) m m) ∧ Out W w' U m (layV l.gates (valsQ c f k))) := hid fun W hb =>
        runlay_any l.gates lg ga m gc dk 0 nb nb (valsQ c f k) W hm (by omega) (y2.kept hb) (by have := (HRT.out.layer k l hl).2.2; rw [← hnb]; exact this) (by omega) (by have := (HO.out.kept hb).row k (by omega); rw [hdk, hnb] at this; exact this) (Nums_vals c f k)
      have HL := hid (And.intro (vals_layer (f := f) hl) hme)
      clear hc y2 y3 hl hlg hm hga hgc hnb hdk hme
      have k0 : (0 : Int) ≤ (k : Int) := by omega
      have k1 : (k : Int) < (n : Int) := by omega
      have k2 : (k : Int) < (n : Int) + 1 := by omega
      have k3 : (k : Int) + 1 < (n : Int) + 1 := by omega
      have k4 : (0 : Int) ≤ (k : Int) + 1 := by omega
      have k5 : IntKind.i64.wrap ((k : Int) + 1) = (k : Int) + 1 := IntWalk.i64_in _ (by omega)
      have k6 : ((k : Int) + 1).toNat = k + 1 := by omega
      have k7 : k < n + 1 := by omega
      have cv2 : ∀ o, (wr.alloc o).cell? ⟨V, k, none⟩ = some (.slice (some ⟨dk, 0, none⟩) nb nb) := fun o => by rw [World.cell?_alloc_old _ _ _ (Nat.ne_of_lt vl)]; exact cv
      have HAL := hid ((Below.refl wr.heap.size wr).alloc (Nat.le_refl _) (.cells #[.int .i64 lg, .slice ga m gc] 56))
      clear cv
      go_wp2_with fail
      go_region_with (first | (go_at_call 55; refine (HC.out _ (by exact HAL.out.drew)).mono ?_; rintro e w3 ⟨U, rfl, hU⟩; have HU := hid hU; have HO3 := hid (HO.out.kept (HAL.out.drew.trans (hU.below.mono HAL.out.drew.size))); have cz := HO3.out.zero (k + 1) (by omega) (by omega); have fz := HO3.out.free (k + 1) (by omega); clear hU))
      all_goals (go_wp2_with fail)
      all_goals (go_roundg (n - (k + 1)))
      all_goals first | (go_light; omega) | skip
      all_goals
        refine ⟨k + 1, by omega, rfl, by go_num, hid ⟨putA D (k + 1) U, ?_⟩⟩
        have hge : wr.heap.size ≤ U := Nat.le_trans HAL.out.drew.size HU.out.ge
        have hrow : Row w3 U 0 (lenQ c (k + 1)) (valsQ c f (k + 1)) := by rw [← HL.out.2, ← HL.out.1]; exact HU.out.row
        have hp := HO3.out.put (by omega) (Nat.le_trans HO.out.below.size hge) HU.out.lt (by omega) hrow (by rw [← HL.out.2]; exact HU.out.free)
        rw [← HL.out.2] at hp
        exact hp
    · have e : k = n := by omega
      subst e
      go_wp2_with fail
      go_ret2
      exact ⟨V, D, rfl, HO.out⟩

end Go.Proofs.YtnnjajmkfgnhcaaDoor
