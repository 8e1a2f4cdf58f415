/-
  A contract of tallyref's joined; it makes a new row and writes nothing that was there.
-/
import Derived.Test.YtoogpkcpheannaaDoorRefMle
namespace Go.Proofs.YtoogpkcpheannaaDoor
open Go.RowKit
set_option linter.unusedVariables false
attribute [local go_sem ↓] Go.wp_at_zero Go.wp_at_succ

def catN (nv : Nat → Nat) : Nat → Nat
  | 0 => 0
  | k + 1 => catN nv k + nv k
def catFs (nv : Nat → Nat) (fv : Nat → Nat → Int) : Nat → Nat → Int
  | 0 => fun _ => 0
  | k + 1 => catF (catN nv k) (catFs nv fv k) (fv k)
theorem catN_le (nv : Nat → Nat) (m k : Nat) (hk : k ≤ m) (h : ∀ k, k < m → nv k ≤ 1000) : catN nv k ≤ 1000 * k := by
  induction k with
  | zero => simp [catN]
  | succ k ih => rw [catN]; have := ih (by omega); have := h k (by omega); omega

set_option maxHeartbeats 2000000 in
set_option maxRecDepth 100000 in
theorem joined_any (B o m cap : Nat) (av : Nat → Option Addr) (nv cv : Nat → Nat) (fv : Nat → Nat → Int) (w : World) (hm : m ≤ 10) (hl : ∀ k, k < m → w.cell? ⟨B, o + k, none⟩ = some (.slice (av k) (nv k) (cv k))) (hB : B < w.heap.size)
    (hp : ∀ k, k < m → PRow w (av k) (nv k) (fv k)) (hn : ∀ k, k < m → nv k ≤ 1000) :
    Calls Tryd.prog 23 #[.slice (some ⟨B, o, none⟩) m cap] w fun e w' => ∃ v, e = .returned v ∧ Own w' w.heap.size v (catN nv m) (catFs nv fv m) ∧ Below w.heap.size w w' := by
  obtain ⟨i0, hi, hz0, hz1, hz2⟩ := info_parts Tryd.infoO
  have HI := hid (And.intro hi (And.intro hz0 (And.intro hz1 hz2)))
  have HL := hid hl
  have HP := hid hp
  have HN := hid hn
  clear hi hz0 hz1 hz2 hl hp hn
  go_enter Tryd.func23, Tryd.ntmps23
  go_wp2_with fail
  go_loopg [3, 4] m (fun q x i wr => ∃ (k : Nat) (v : Value), k ≤ m ∧ q = m - k ∧ x = v ∧ i = .int .i64 (k : Int) ∧ Hid (Own wr w.heap.size v (catN nv k) (catFs nv fv k)) ∧ Hid (Below w.heap.size w wr))
  case atStart => exact ⟨0, _, by omega, rfl, rfl, rfl, hid (Own.nil _ _ _), hid (Below.refl _ _)⟩
  case round =>
    obtain ⟨k, v, hk, rfl, rfl, rfl, HO, HB⟩ := hrel
    by_cases hlt : k < m
    · have c1 := (HB.out.cell hB).trans (HL.out k hlt)
      have k0 : (0 : Int) ≤ (k : Int) := by omega
      have k1 : (k : Int) < (m : Int) := by omega
      by_cases hz : nv k = 0
      · rw [hz] at c1
        go_wp2_with (at_builtin; refine wpList_append_empty _ rfl _ _ 22 rfl w.heap.size 23 i0 1 Tryd.underlying22 HI.out.1 _ _ _ rfl HO.out _ _ rfl ?_)
        go_roundg (m - (k + 1))
        case measure => go_light; omega
        case rel =>
          refine ⟨k + 1, _, by omega, rfl, rfl, by go_num, hid ?_, HB⟩
          have h := HO.out
          rw [catN, hz, Nat.add_zero]
          exact h.congr fun j hj => by rw [catFs, catF, if_pos hj]
      · obtain ⟨b2, off2, e1, hr⟩ := HP.out k hlt (by omega)
        rw [e1] at c1
        have hn1 := HN.out k hlt
        have hcn := catN_le nv m k hk HN.out
        have HR := hid (hr.kept HB.out (hr.lt (by omega)))
        clear hr e1
        obtain ⟨n1, hn2⟩ : ∃ n1, nv k = n1 := ⟨_, rfl⟩
        rw [hn2] at c1 hn1 hz HR
        have HN2 := hid hn2
        clear hn2
        go_wp2_with (at_builtin; refine wpList_append_lies _ rfl _ _ 22 rfl w.heap.size 23 i0 (.int .u64 0) 1 8 Tryd.underlying22 HI.out.1 HI.out.2.1 HI.out.2.2.1 HI.out.2.2.2 rfl (by decide) _ _ _ rfl HO.out ⟨b2, off2, none⟩ n1 (cv k) (cellsOf n1 (fv k)) rfl ?qc1 ?qc2 ?qc3 ?qc4 ?qc5 ?qc6 ?qc7 wr.heap.size ?qc8 ?_)
        case qc1 => rw [cellsOf_len]; omega
        case qc2 => exact row_cells HR.out
        case qc3 => exact cellsOf_one _ _
        case qc4 => omega
        case qc5 => unfold maxLen; omega
        case qc6 => omega
        case qc7 => exact HB.out.size
        case qc8 => rfl
        intro g2 c2 w6 hown2 hgrow2 hat2 hlt2
        have HO6 : Hid (Own w6 w.heap.size (.slice (some ⟨g2, 0, none⟩) (catN nv k + n1) c2) (catN nv k + n1) (catF (catN nv k) (catFs nv fv k) (fv k))) := hid (by
          rw [cellsOf_cat] at hown2
          exact hown2)
        have HB6 : Hid (Below w.heap.size w w6) := hid (HB.out.grown hgrow2 HB.out.size (by intro t ht; exact (World.ownsRow.lt HO.out t ht).1))
        clear hown2 hgrow2 hat2 hlt2
        go_wp2_with fail
        go_roundg (m - (k + 1))
        case measure => go_light; omega
        case rel => exact ⟨k + 1, _, by omega, rfl, rfl, by go_num, hid (by rw [catN, HN2.out]; exact HO6.out), HB6⟩
    · have e : k = m := by omega
      subst e
      go_wp2_with fail
      go_ret
      exact ⟨_, rfl, HO.out, HB.out⟩

theorem joined_two (B cap : Nat) (a0 a1 : Option Addr) (n0 c0 n1 c1 : Nat) (f0 f1 : Nat → Int) (w : World) (h0 : w.cell? ⟨B, 0, none⟩ = some (.slice a0 n0 c0)) (h1 : w.cell? ⟨B, 1, none⟩ = some (.slice a1 n1 c1))
    (p0 : PRow w a0 n0 f0) (p1 : PRow w a1 n1 f1) (l0 : n0 ≤ 1000) (l1 : n1 ≤ 1000) :
    Calls Tryd.prog 23 #[.slice (some ⟨B, 0, none⟩) 2 cap] w fun e w' => ∃ v, e = .returned v ∧ Own w' w.heap.size v (n0 + n1) (catF n0 f0 f1) ∧ Below w.heap.size w w' := by
  have h := joined_any B 0 2 cap (fun k => if k = 0 then a0 else a1) (fun k => if k = 0 then n0 else n1) (fun k => if k = 0 then c0 else c1) (fun k => if k = 0 then f0 else f1) w (by omega)
    (fun k hk => by
      match k, hk with
      | 0, _ => exact h0
      | 1, _ => exact h1)
    (World.block_lt_of_cell? w _ h0)
    (fun k hk => by
      match k, hk with
      | 0, _ => exact p0
      | 1, _ => exact p1)
    (fun k hk => by
      match k, hk with
      | 0, _ => exact l0
      | 1, _ => exact l1)
  refine h.mono ?_
  rintro e w' ⟨v, rfl, ho, hb⟩
  refine ⟨v, rfl, ?_, hb⟩
  have e1 : catN (fun k => if k = 0 then n0 else n1) 2 = n0 + n1 := by simp [catN]
  rw [e1] at ho
  refine ho.congr fun j hj => ?_
  simp only [catFs, catN, if_pos, Nat.zero_add, catF]
  by_cases hj2 : j < n0
  · rw [if_pos hj2, if_neg (by omega), if_pos hj2]; simp
  · rw [if_neg hj2, if_neg hj2]; simp

end Go.Proofs.YtoogpkcpheannaaDoor
