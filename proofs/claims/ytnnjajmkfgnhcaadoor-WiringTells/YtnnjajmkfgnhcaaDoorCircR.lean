/-
  Contracts of package circuit's rests, runLayer and Run, for right circuits; they make new blocks and write nothing that was there.
-/
import Derived.Test.YtnnjajmkfgnhcaaDoorCircC
import Derived.Test.YtnnjajmkfgnhcaaDoorFieldA
import Derived.Test.YtnnjajmkfgnhcaaDoorTabs
import Derived.Deep.OwnRows
namespace Go.Proofs.YtnnjajmkfgnhcaaDoor
open Go.RowKit Go.Deep
set_option linter.unusedVariables false
attribute [local go_sem ↓] Go.wp_at_zero Go.wp_at_succ

theorem Tryd.infoR : (Tryd.prog.info? 26).map (fun i => (i.zero, i.size, i.bytes)) = some (some (.int .u64 0), 1, 8) := by kernel_rfl
/-- A row of the call's own at block V, which may be written. -/
structure Out (w w' : World) (V n : Nat) (f : Nat → Int) : Prop where
  below : Below w.heap.size w w'
  row : Row w' V 0 n f
  free : Free w' V 0 n
  ge : w.heap.size ≤ V
  lt : V < w'.heap.size
theorem Out.start {w w0 : World} (hb : Below w.heap.size w w0) (n : Nat) (t : TypeId) : Out w (w0.alloc (.cells (madeCells #[.int .u64 0] n) t)) w0.heap.size n (fun _ => 0) :=
  have h := Made.start w0 n t
  ⟨hb.trans (h.below.mono hb.size), h.row, h.free, hb.size, by simp⟩
theorem Out.cell {w w' : World} {V n : Nat} {f : Nat → Int} (h : Out w w' V n f) (j : Nat) (hj : j < n) : w'.cell? ⟨V, j, none⟩ = some (.int .u64 (f j)) := by
  have := h.row j hj
  rwa [Nat.zero_add] at this
theorem Out.frozen {w w' : World} {V n : Nat} {f : Nat → Int} (h : Out w w' V n f) (j : Nat) (hj : j < n) : w'.frozen? ⟨V, j, none⟩ = false := by
  have := h.free j hj
  rwa [Nat.zero_add] at this
theorem Out.kept {w w1 w2 : World} {V n : Nat} {f : Nat → Int} (h : Out w w1 V n f) (hb : Below w1.heap.size w1 w2) : Out w w2 V n f :=
  ⟨h.below.trans (hb.mono h.below.size), h.row.kept hb h.lt, h.free.kept hb h.lt, h.ge, Nat.lt_of_lt_of_le h.lt hb.size⟩
theorem Out.congr {w w' : World} {V n : Nat} {f g : Nat → Int} (h : Out w w' V n f) (e : ∀ j, j < n → f j = g j) : Out w w' V n g := ⟨h.below, h.row.congr e, h.free, h.ge, h.lt⟩
theorem Out.store {w w' : World} {V n : Nat} {f : Nat → Int} (h : Out w w' V n f) (i : Nat) (x : Int) (hi : i < n) : Out w (w'.setCell ⟨V, i, none⟩ (.int .u64 x)) V n (fun j => if j = i then x else f j) := by
  have hs := h.row.store i x hi
  rw [Nat.zero_add] at hs
  exact ⟨h.below.setCell h.ge _, hs, fun j hj => by rw [World.frozen?_setCell]; exact h.free j hj, h.ge, by rw [World.size_setCell]; exact h.lt⟩
theorem put_step (f : Nat → Int) (k j : Nat) (a : Int) (ha : f k = a) : (if j = k then a else if j < k then f j else 0) = if j < k + 1 then f j else 0 := by
  by_cases e : j = k
  · subst e; rw [if_pos rfl, if_pos (by omega), ha]
  · rw [if_neg e]
    by_cases h2 : j < k
    · rw [if_pos h2, if_pos (by omega)]
    · rw [if_neg h2, if_neg (by omega)]

set_option maxHeartbeats 1000000 in
set_option maxRecDepth 100000 in
theorem rests_any (b off n cap : Nat) (f : Nat → Int) (w : World) (hn : n ≤ 1000) (hr : Row w b off n f) (hv : Nums f) :
    Calls Tryd.prog 54 #[.slice (some ⟨b, off, none⟩) n cap] w fun e w' => e = .returned (.slice (some ⟨w.heap.size, 0, none⟩) n n) ∧ Made w w' n (fun j => nrm (f j)) := by
  have HR := hid hr
  have HV := hid hv
  clear hr hv
  have hmk := run_make_row' (P := Tryd.prog) 22 26 (.int .u64 0) 8 Tryd.underlying22 Tryd.infoR rfl .i64 .i64 n (by omega) (by omega)
  go_enter Tryd.func54, Tryd.ntmps54
  go_wp2_with fail
  clear hmk
  go_loopg [11] n (fun g i wr => ∃ k : Nat, k ≤ n ∧ g = n - k ∧ i = .int .i64 (k : Int) ∧ Hid (Made w wr n (fun j => if j < k then nrm (f j) else 0)))
  case atStart => exact ⟨0, by omega, rfl, rfl, hid ((Made.start w n 26).congr fun j _ => by rw [if_neg (by omega)])⟩
  case round =>
    obtain ⟨k, hk, rfl, rfl, HM⟩ := hrel
    by_cases hlt : k < n
    · have c1 := HM.out.old HR.out k (by omega)
      have c3 := HM.out.cell k hlt
      have f3 := HM.out.frozen k hlt
      rw [if_neg (by omega)] at c3
      obtain ⟨a, ha⟩ : ∃ a, f k = a := ⟨_, rfl⟩
      obtain ⟨a0, a1⟩ := HV.out k
      rw [ha] at c1 a0 a1
      have HA := hid ha
      clear ha
      have k0 : (0 : Int) ≤ (k : Int) := by omega
      have k1 : (k : Int) < (n : Int) := by omega
      go_wp2_with (go_at_call 16; refine (norm_any _ _ (by omega) (by omega)).mono ?_; rintro e w' ⟨rfl, hw⟩; obtain rfl := hw.symm)
      go_roundg (n - (k + 1))
      case measure => go_light; omega
      case rel => exact ⟨k + 1, by omega, rfl, by go_num, hid ((HM.out.store k _ hlt).congr fun j _ => put_step (fun j => nrm (f j)) k j _ (by rw [HA.out]))⟩
    · have e : k = n := by omega
      subst e
      go_wp2_with fail
      go_ret
      exact ⟨rfl, HM.out.congr fun j hj => by rw [if_pos hj]⟩

theorem layV_at {gs : List GQ} {F : Nat → Int} {t : Nat} {x : GQ} (h : gs[t]? = some x) : layV gs F t = if x.mul then mulQ (F x.a.toNat) (F x.b.toNat) else addQ (F x.a.toNat) (F x.b.toNat) := by
  unfold layV; rw [h]
set_option maxHeartbeats 1000000 in
set_option maxRecDepth 100000 in
theorem runlay_any (gs : List GQ) (lg : Int) (ga : Option Addr) (m gc b off nb cap : Nat) (F : Nat → Int) (w : World) (hm : gs.length = m) (m16 : m ≤ 1000) (hr : GRow w ga gs) (hg : ∀ q ∈ gs, gateOk (nb : Int) q) (hn : nb ≤ 1000) (hb : Row w b off nb F) (hv : Nums F) :
    Calls Tryd.prog 55 #[.agg #[.int .i64 lg, .slice ga m gc], .slice (some ⟨b, off, none⟩) nb cap] w fun e w' => ∃ V, e = .returned (.slice (some ⟨V, 0, none⟩) m m) ∧ Out w w' V m (layV gs F) := by
  have HR := hid hr
  have HM := hid hm
  have HG := hid hg
  have HV := hid hv
  have HBR := hid hb
  clear hr hm hg hv hb
  have hmk := run_make_row' (P := Tryd.prog) 22 26 (.int .u64 0) 8 Tryd.underlying22 Tryd.infoR rfl .i64 .i64 m (by omega) (by omega)
  go_enter Tryd.func55, Tryd.ntmps55
  go_wp2_with fail
  clear hmk
  have hal := (Below.refl w.heap.size w).alloc (Nat.le_refl _) (.cells #[.int .i64 lg, .slice ga m gc] 56)
  have HO0 := hid ((Out.start hal m 26).congr fun j _ => (show (fun _ => (0 : Int)) j = (fun j => if j < 0 then layV gs F j else 0) j from by dsimp only; rw [if_neg (by omega)]))
  have e1 : (w.alloc (.cells #[.int .i64 lg, .slice ga m gc] 56)).heap.size = w.heap.size + 1 := by simp
  rw [e1] at HO0
  obtain ⟨V, hV⟩ : ∃ V, w.heap.size + 1 = V := ⟨_, rfl⟩
  rw [hV] at HO0 ⊢
  generalize (w.alloc (.cells #[.int .i64 lg, .slice ga m gc] 56)).alloc (.cells (madeCells #[.int .u64 0] m) 26) = W0 at HO0 ⊢
  clear hal e1 hV
  go_loopg [17] m (fun q i wr => ∃ t : Nat, t ≤ m ∧ q = m - t ∧ i = .int .i64 (t : Int) ∧ Hid (Out w wr V m (fun j => if j < t then layV gs F j else 0)))
  case atStart => exact ⟨0, by omega, rfl, rfl, HO0⟩
  case round =>
    clear HO0
    obtain ⟨t, ht, rfl, rfl, HO⟩ := hrel
    by_cases htl : t < m
    · obtain ⟨x, hx⟩ : ∃ x, gs[t]? = some x := ⟨gs[t]'(by rw [HM.out]; exact htl), by simp⟩
      obtain ⟨gb, go, rfl, hgc⟩ := HR.out.kept HO.out.below (by intro e; have := HM.out; rw [e] at this; simp at this; omega)
      obtain ⟨q0, q1, q2⟩ := hgc t x hx
      obtain ⟨⟨a0, a1⟩, b0, b1⟩ := HG.out x (List.mem_of_getElem? hx)
      rw [Nat.mul_comm 3 t] at q0 q1 q2
      obtain ⟨xm, hxm⟩ : ∃ v, x.mul = v := ⟨_, rfl⟩
      obtain ⟨ia, hia⟩ : ∃ v : Nat, x.a = (v : Int) := ⟨x.a.toNat, by omega⟩
      obtain ⟨ib, hib⟩ : ∃ v : Nat, x.b = (v : Int) := ⟨x.b.toNat, by omega⟩
      rw [hxm] at q0
      rw [hia] at q1 a1
      rw [hib] at q2 b1
      have hlay := layV_at (F := F) hx
      rw [hxm, hia, hib, Int.toNat_natCast, Int.toNat_natCast] at hlay
      clear hgc hx hxm hia hib a0 b0
      obtain ⟨b', off', eb, hrow⟩ := (PRow.of HBR.out).kept HO.out.below (by omega)
      cases eb
      obtain ⟨va, hva⟩ : ∃ v, F ia = v := ⟨_, rfl⟩
      obtain ⟨vb, hvb⟩ : ∃ v, F ib = v := ⟨_, rfl⟩
      have bb : b < wr.heap.size := World.block_lt_of_cell? wr _ (hrow ia (by omega))
      have ca : ∀ o, (wr.alloc o).cell? ⟨b, off + ia, none⟩ = some (.int .u64 va) := fun o => by rw [World.cell?_alloc_old _ _ _ (Nat.ne_of_lt bb), ← hva]; exact hrow ia (by omega)
      have cb : ∀ o, (wr.alloc o).cell? ⟨b, off + ib, none⟩ = some (.int .u64 vb) := fun o => by rw [World.cell?_alloc_old _ _ _ (Nat.ne_of_lt bb), ← hvb]; exact hrow ib (by omega)
      obtain ⟨va0, va1⟩ := HV.out ia
      obtain ⟨vb0, vb1⟩ := HV.out ib
      rw [hva] at va0 va1 hlay
      rw [hvb] at vb0 vb1 hlay
      clear hva hvb hrow bb
      have t0 : (0 : Int) ≤ (t : Int) := by omega
      have t1 : (t : Int) < (m : Int) := by omega
      have i0 : (0 : Int) ≤ (ia : Int) := by omega
      have i1 : (0 : Int) ≤ (ib : Int) := by omega
      cases xm with
      | true =>
        rw [if_pos rfl] at hlay
        have HLAY := hid hlay
        clear hlay
        have hal := (Below.refl wr.heap.size wr).alloc (Nat.le_refl _) (.cells #[.bool true, .int .i64 (ia : Int), .int .i64 (ib : Int)] 91)
        go_wp2_with fail
        go_quiet (fail)
        go_wp2_with fail
        have hB1 : Below wr.heap.size wr ((wr.alloc (.cells #[.bool true, .int .i64 (ia : Int), .int .i64 (ib : Int)] 91)).drewN nq) := ⟨hal.os, hal.tape, hal.output, hal.size, hal.block⟩
        have HO1 := hid (HO.out.kept hB1)
        clear hB1 hal HO ca cb q0 q1 q2
        generalize (wr.alloc (.cells #[.bool true, .int .i64 (ia : Int), .int .i64 (ib : Int)] 91)).drewN nq = W1 at HO1 ⊢
        have cv := HO1.out.cell t htl
        have fv := HO1.out.frozen t htl
        rw [if_neg (by omega)] at cv
        refine (mul_any va vb W1 (by omega) (by omega) (by omega) (by omega)).mono ?_
        rintro e w' ⟨rfl, hw⟩
        obtain rfl := hw.symm
        go_wp2_with fail
        go_roundg (m - (t + 1))
        case measure => go_light; omega
        case rel => exact ⟨t + 1, by omega, rfl, by go_num, hid ((HO1.out.store t _ htl).congr fun j _ => put_step (layV gs F) t j _ HLAY.out)⟩
      | false =>
        rw [if_neg (by decide)] at hlay
        have HLAY := hid hlay
        clear hlay
        have hal := (Below.refl wr.heap.size wr).alloc (Nat.le_refl _) (.cells #[.bool false, .int .i64 (ia : Int), .int .i64 (ib : Int)] 91)
        go_wp2_with fail
        go_quiet (fail)
        go_wp2_with fail
        have hB1 : Below wr.heap.size wr ((wr.alloc (.cells #[.bool false, .int .i64 (ia : Int), .int .i64 (ib : Int)] 91)).drewN nq) := ⟨hal.os, hal.tape, hal.output, hal.size, hal.block⟩
        have HO1 := hid (HO.out.kept hB1)
        clear hB1 hal HO ca cb q0 q1 q2
        generalize (wr.alloc (.cells #[.bool false, .int .i64 (ia : Int), .int .i64 (ib : Int)] 91)).drewN nq = W1 at HO1 ⊢
        have cv := HO1.out.cell t htl
        have fv := HO1.out.frozen t htl
        rw [if_neg (by omega)] at cv
        refine (add_any va vb W1 (by omega) (by omega) (by omega) (by omega)).mono ?_
        rintro e w' ⟨rfl, hw⟩
        obtain rfl := hw.symm
        go_wp2_with fail
        go_roundg (m - (t + 1))
        case measure => go_light; omega
        case rel => exact ⟨t + 1, by omega, rfl, by go_num, hid ((HO1.out.store t _ htl).congr fun j _ => put_step (layV gs F) t j _ HLAY.out)⟩
    · have e : t = m := by omega
      subst e
      go_wp2_with fail
      go_ret
      exact ⟨V, rfl, HO.out.congr fun j hj => by rw [if_pos hj]⟩

end Go.Proofs.YtnnjajmkfgnhcaaDoor
