/-
  A contract of package open's lookInto: all looks are told what they see in one table; it makes new blocks, and writes nothing that was there but the looks' own pairs and paths.
-/
import Derived.Test.YtnnjajmkfgnhcaaDoorOpG
import Derived.Test.YtnnjajmkfgnhcaaDoorTreeR
import Derived.Deep.RegionHeld3
namespace Go.Proofs.YtnnjajmkfgnhcaaDoor
open Go.RowKit
set_option linter.unusedVariables false
attribute [local go_sem ↓] Go.wp_at_zero Go.wp_at_succ

theorem Tryd.infoJ : (Tryd.prog.info? 3).map (fun i => (i.zero, i.size, i.bytes)) = some (some (.int .i64 0), 1, 8) := by kernel_rfl
/-- What is told of table i, as far as t numbers of it. -/
def updI {α : Type} (f : Nat → Nat → Nat → α) (i t : Nat) (x : Nat → α) (k' i' e' : Nat) : α := if i' = i ∧ e' < 2 ∧ 2 * k' + e' < t then x (2 * k' + e') else f k' i' e'
theorem updI_zero {α : Type} (f : Nat → Nat → Nat → α) (i : Nat) (x : Nat → α) : updI f i 0 x = f := by
  funext k' i' e'
  unfold updI
  rw [if_neg (fun h => absurd h.2.2 (by omega))]
theorem updI_next {α : Type} (f : Nat → Nat → Nat → α) (i t k s : Nat) (x : Nat → α) (hs : s < 2) (ht : t = 2 * k + s) (y : α) (hy : y = x t) : ∀ k' i' e', e' < 2 → put3 (updI f i t x) k i s y k' i' e' = updI f i (t + 1) x k' i' e' := fun k' i' e' he' => by
  unfold put3
  by_cases h : k' = k ∧ i' = i ∧ e' = s
  · obtain ⟨rfl, rfl, rfl⟩ := h
    rw [if_pos ⟨rfl, rfl, rfl⟩, updI, if_pos ⟨rfl, hs, by omega⟩, ← ht, hy]
  · rw [if_neg h, updI, updI]
    by_cases h1 : i' = i ∧ e' < 2 ∧ 2 * k' + e' < t
    · rw [if_pos h1, if_pos ⟨h1.1, h1.2.1, by omega⟩]
    · rw [if_neg h1, if_neg (fun h2 => h (by
        refine ⟨?_, h2.1, ?_⟩
        · by_cases h3 : 2 * k' + e' < t
          · exact absurd ⟨h2.1, h2.2.1, h3⟩ h1
          · omega
        · by_cases h3 : 2 * k' + e' < t
          · exact absurd ⟨h2.1, h2.2.1, h3⟩ h1
          · omega))]
theorem LkM.congr {W : World} {E LB n m : Nat} {pb tb : Nat → Nat} {pv pv' : Nat → Nat → Nat → Int} {tv tv' : Nat → Nat → Nat → Value} (h : LkM W E LB n m pb tb pv tv) (h1 : ∀ k i e, e < 2 → pv k i e = pv' k i e) (h2 : ∀ k i e, e < 2 → tv k i e = tv' k i e) : LkM W E LB n m pb tb pv' tv' :=
  ⟨h.cl, fun k i e hk hi he => by rw [← h1 k i e he]; exact h.pc k i e hk hi he, fun k i e hk hi he => by rw [← h2 k i e he]; exact h.tc k i e hk hi he, h.lo, h.lt, h.ne, h.pt, h.pp⟩
theorem irow_own {w : World} {base : Nat} {v : Value} {t : Nat} {pl : Nat → Nat} {H : Nat} (h : w.ownsRow base 3 1 v t (endV pl H t)) : ∃ ao c, v = .slice ao t c ∧ IRowP w ao t (fun j => ((endQ pl H j : Nat) : Int)) ∧ (∀ b off, ao = some ⟨b, off, none⟩ → base ≤ b) := by
  rcases h.2 with ⟨rfl, h0⟩ | ⟨g, cap, cur, rfl, hb, _⟩
  · exact ⟨none, 0, by rw [h0], fun h1 => by omega, fun b off e => by cases e⟩
  · exact ⟨some ⟨g, 0, none⟩, cap, rfl, fun _ => ⟨g, 0, rfl, fun j hj => by rw [Nat.zero_add, h.cellAt j (by omega), endV_at pl H t j hj]⟩, fun b off e => by injection e with e; injection e with e1 e2; omega⟩

set_option maxHeartbeats 8000000 in
set_option maxRecDepth 100000 in
theorem lookInto_ok (E LB n m i nv H N b off cap cpl : Nat) (apl : Option Addr) (pb tb : Nat → Nat) (pv : Nat → Nat → Nat → Int) (tv : Nat → Nat → Nat → Value) (f : Nat → Int) (pl : Nat → Nat) (w : World) (hi : i < n) (hnv1 : 1 ≤ nv) (hnv : nv ≤ 8) (hN : N = 2 ^ nv) (hH : N = 2 * H) (hm : m ≤ 32) (ht : Tab w) (hr : Row w b off N f) (hv : Nums f) (hp : IRowP w apl m fun j => (pl j : Int)) (hpl : ∀ j, j < m → pl j ≤ 1000) (hl : LkM w E LB n m pb tb pv tv) (hbS : ¬ LkM.S m pb tb b) :
    Calls Tryd.prog 40 #[.slice (some ⟨LB, 0, none⟩) m m, .int .i64 (i : Int), .slice (some ⟨b, off, none⟩) N cap, .slice apl m cpl] w fun e w' => e = .returned (.tuple #[]) ∧ ∃ a : Nat → Nat,
      LkM w' E LB n m pb tb (updI pv i (2 * m) fun j => nrm (f (endQ pl H j))) (updI tv i (2 * m) fun j => .slice (some ⟨a j, 0, none⟩) nv nv) ∧ ButS (LkM.S m pb tb) w w' ∧ ∀ j, j < 2 * m → w.heap.size ≤ a j ∧ a j < w'.heap.size ∧ Row w' (a j) 0 nv (pathQ nv f (endQ pl H j)) ∧ Free w' (a j) 0 nv := by
  have hH1 : 1 ≤ H := by have := Nat.two_pow_pos nv; omega
  have hH2 : H ≤ 256 := by have : 2 ^ nv ≤ 2 ^ 8 := Nat.pow_le_pow_right (by omega) hnv; omega
  obtain ⟨i0, hi0, hz0, hz1, hz2⟩ := info_parts Tryd.infoJ
  have HI := hid (And.intro hi0 (And.intro hz0 (And.intro hz1 hz2)))
  have HN := hid hN
  have HT := hid ht
  have HR := hid hr
  have HV := hid hv
  have HP := hid hp
  have HPL := hid hpl
  have HL := hid hl
  have HBS := hid hbS
  subst hH
  clear hN ht hr hv hp hpl hl hbS hi0 hz0 hz1 hz2
  go_enter Tryd.func40, Tryd.ntmps40
  go_wp2_with fail
  go_loopg [9, 23] m (fun q x9 x23 wr => ∃ (t : Nat) (v : Value), t ≤ m ∧ q = m - t ∧ x9 = v ∧ x23 = .int .i64 (t : Int) ∧ Hid (wr.ownsRow w.heap.size 3 1 v (2 * t) (endV pl H (2 * t))) ∧ Hid (Below w.heap.size w wr))
  case atStart => exact ⟨0, _, by omega, rfl, rfl, rfl, hid (World.ownsRow_nil w w.heap.size 3 1), hid (Below.refl _ _)⟩
  case round =>
    obtain ⟨t, v, htm, rfl, rfl, rfl, HO, HB⟩ := hrel
    by_cases hlt : t < m
    · obtain ⟨bp, op, rfl, hpr⟩ := (HP.out.kept HB.out) (by omega)
      have c1 := hpr t hlt
      dsimp only at c1
      have hp8 := HPL.out t hlt
      obtain ⟨q, hq⟩ : ∃ q, pl t % H = q := ⟨_, rfl⟩
      have HE := hid (endV_next pl H t q hq)
      obtain ⟨p, hpp⟩ : ∃ p, pl t = p := ⟨_, rfl⟩
      rw [hpp] at c1 hp8 hq
      have hmod : (p : Int) % (H : Int) = (q : Int) := by rw [← hq]; simp
      have htmd : (p : Int).tmod (H : Int) = (q : Int) := by rw [← hq, Int.tmod_eq_emod_of_nonneg (by omega)]; simp
      have hqH : q < H := by rw [← hq]; exact Nat.mod_lt _ hH1
      have t0 : (0 : Int) ≤ (t : Int) := by omega
      have t1 : (t : Int) < (m : Int) := by omega
      have hz : ((H : Int) == 0) = false := by rw [beq_eq_false_iff_ne]; omega
      have hz2 : ¬ (H : Int) = 0 := by omega
      have hz3 : ¬ H = 0 := by omega
      have wr0 : IntKind.i64.wrap (q : Int) = (q : Int) := IntWalk.i64_in _ (by omega)
      have wr1 : IntKind.i64.wrap ((q : Int) + (H : Int)) = (q : Int) + (H : Int) := IntWalk.i64_in _ (by omega)
      clear hpr hpp hq
      go_wp2_with fail
      go_region_held3 (fun _ => True) (trivial) (first
        | (refine step_append_lies _ (by rfl) (.tmp 27) (.tmp 36) 23 (by rfl) w.heap.size 3 i0 (.int .i64 0) 1 8 Tryd.underlying23 HI.out.1 HI.out.2.1 HI.out.2.2.1 HI.out.2.2.2 rfl (by decide) _ (2 * t) (endV pl H (2 * t)) (by rfl) (World.ownsRow.alloc HO.out _) ⟨wr.heap.size, 0, none⟩ 2 2 [.int .i64 (q : Int), .int .i64 ((q : Int) + (H : Int))] (by rfl) (by rfl) (by intro j u hj; match j, hj with | 0, hj => (simp at hj; subst hj; simp [Addr.add]) | 1, hj => (simp at hj; subst hj; simp [Addr.add])) (by intro u hu; simp at hu; rcases hu with rfl | rfl <;> rfl) (by omega) (by unfold maxLen; omega) (by omega) (by have := HB.out.size; simp; omega) _ rfl ?_; intro g6 c6 w6 hown6 hgrow6 hat6 hlt6; have HG6 := hid (And.intro hown6 (And.intro hgrow6 hlt6)); clear hown6 hgrow6 hat6 hlt6))
      all_goals (go_wp2_with fail)
      all_goals (go_roundg (m - (t + 1)))
      all_goals first | (go_light; omega) | skip
      all_goals
        have ho := HG6.out.1
        rw [HE.out, show 2 * t + 2 = 2 * (t + 1) from by omega] at ho
        have hb6 : Below w.heap.size w w6 := ((HB.out.alloc HB.out.size _).drew).grown HG6.out.2.1 (by have := HB.out.size; show w.heap.size ≤ (wr.alloc _).heap.size; simp; omega) (by intro t ht; exact (World.ownsRow.lt HO.out t ht).1)
        exact ⟨t + 1, _, by omega, rfl, rfl, by go_num, hid ho, hid hb6⟩
    · have e : t = m := by omega
      subst e
      obtain ⟨ao, ce, hve, hie, hbase⟩ := irow_own HO.out
      subst hve
      have HPT := hid (tpaths_ok nv (2 * H) b off cap (2 * t) ce ao f (endQ pl H) wr hnv HN.out (HT.out.kept HB.out HT.out.1) (HR.out.kept HB.out (HR.out.lt (by omega))) HV.out (by omega) hie (fun j hj => by
        have h1 : pl (j / 2) % H < H := Nat.mod_lt _ hH1
        have h2 : j % 2 < 2 := Nat.mod_lt _ (by omega)
        unfold endQ
        rcases (show j % 2 = 0 ∨ j % 2 = 1 by omega) with h | h <;> rw [h] <;> omega))
      have HIE := hid (And.intro hie hbase)
      clear hie hbase HO
      go_wp2_with (go_at_call 69; refine (HPT.out).mono ?_; rintro e w1 ⟨W, a, rfl, hbW, hly⟩; have HBW := hid hbW; have HLY := hid hly; clear hbW hly)
      have hW1 : Below wr.heap.size wr w1 := HBW.out.trans (HLY.out.below.mono HBW.out.size)
      have hW0 : Below w.heap.size w w1 := HB.out.trans (hW1.mono HB.out.size)
      have HSL : Hid (∀ c, LkM.S t pb tb c → c < w.heap.size) := hid (fun c ⟨k, hk, h⟩ => by rcases h with rfl | rfl; exact (HL.out.lt k hk).1; exact (HL.out.lt k hk).2)
      have HW0 := hid hW0
      have HW1 := hid hW1
      have HWs : Hid (w.heap.size ≤ wr.heap.size ∧ wr.heap.size ≤ W.heap.size ∧ W.heap.size < w1.heap.size) := hid ⟨HB.out.size, HBW.out.size, HLY.out.lt⟩
      obtain ⟨PW, hPW⟩ : ∃ PW, W.heap.size = PW := ⟨_, rfl⟩
      have HPW := hid hPW
      rw [hPW]
      clear hPW HPT hW1 hW0
      go_loopg [47] (2 * t) (fun q x47 ws => ∃ e : Nat, e ≤ 2 * t ∧ q = 2 * t - e ∧ x47 = .int .i64 (e : Int) ∧ Hid (LkM ws E LB n t pb tb (updI pv i e fun j => nrm (f (endQ pl H j))) (updI tv i e fun j => .slice (some ⟨a j, 0, none⟩) nv nv)) ∧ Hid (ButS (LkM.S t pb tb) w1 ws))
      case atStart => exact ⟨0, by omega, rfl, rfl, hid (by rw [updI_zero, updI_zero]; exact HL.out.kept HW0.out), hid (ButS.refl _ _)⟩
      case round =>
        obtain ⟨e, het, rfl, rfl, HM, HS⟩ := hrel
        by_cases hlt2 : e < 2 * t
        · obtain ⟨be, oe, rfl, her⟩ := HIE.out.1 (by omega)
          have hbe := HIE.out.2 be oe rfl
          have c0 := her e hlt2
          have c0 := HS.out.cell (keepD HW1.out c0) (fun h => by have h1 := HSL.out _ h; simp only at h1; omega)
          have hal : endQ pl H e < 2 * H := by
            have h1 : pl (e / 2) % H < H := Nat.mod_lt _ hH1
            unfold endQ
            rcases (show e % 2 = 0 ∨ e % 2 = 1 by omega) with h | h <;> rw [h] <;> omega
          have c1 := HS.out.cell (keepD HW0.out (HR.out (endQ pl H e) hal)) HBS.out
          have c2 := HLY.out.cell e hlt2
          rw [HPW.out] at c2
          have c2 := HS.out.cell c2 (fun h => by have h1 := HSL.out _ h; have h2 := HWs.out; have h3 := HPW.out; simp only at h1; omega)
          obtain ⟨k, hk⟩ : ∃ k, e / 2 = k := ⟨_, rfl⟩
          obtain ⟨s, hs⟩ : ∃ s, e % 2 = s := ⟨_, rfl⟩
          have hkt : k < t := by omega
          have hs2 : s < 2 := by omega
          have hes : e = 2 * k + s := by omega
          obtain ⟨l0, l1⟩ := HM.out.cl k hkt
          obtain ⟨p0, p1⟩ := HM.out.pc k i s hkt hi hs2
          obtain ⟨q0, q1⟩ := HM.out.tc k i s hkt hi hs2
          rw [Nat.mul_comm 2 k] at l0 l1
          rw [Nat.mul_comm 2 i] at p0 p1 q0 q1
          have hdk : (e : Int) / 2 = (k : Int) := by omega
          have hds : (e : Int) % 2 = (s : Int) := by omega
          have bx := HV.out (endQ pl H e)
          have HXE : Hid (nrm (f (endQ pl H e)) = (fun j => nrm (f (endQ pl H j))) e) := hid rfl
          have HNE : Hid (pb k ≠ b ∧ tb k ≠ PW ∧ pb k ≠ tb k) := hid ⟨fun h => HBS.out ⟨k, hkt, .inl h.symm⟩, fun h => by have h1 := (HL.out.lt k hkt).2; have h2 := HWs.out; have h3 := HPW.out; omega, HL.out.pt k k hkt hkt⟩
          have HNP : Hid (pb k ≠ PW) := hid (fun h => by have h1 := (HL.out.lt k hkt).1; have h2 := HWs.out; have h3 := HPW.out; omega)
          have HLTs : Hid (pb k < wr.heap.size ∧ tb k < wr.heap.size) := hid (HM.out.lt k hkt)
          have HPVN := hid (updI_next pv i e k s (fun j => nrm (f (endQ pl H j))) hs2 hes (nrm (f (endQ pl H e))) rfl)
          have HTVN := hid (updI_next tv i e k s (fun j => Value.slice (some ⟨a j, 0, none⟩) nv nv) hs2 hes (.slice (some ⟨a e, 0, none⟩) nv nv) rfl)
          have HMK : Hid (∀ W, LkM W E LB n t pb tb (updI pv i e fun j => nrm (f (endQ pl H j))) (updI tv i e fun j => .slice (some ⟨a j, 0, none⟩) nv nv) → LkM ((W.setCell ⟨pb k, i * 2 + s, none⟩ (.int .u64 (nrm (f (endQ pl H e))))).drew.setCell ⟨tb k, i * 2 + s, none⟩ (.slice (some ⟨a e, 0, none⟩) nv nv)) E LB n t pb tb (updI pv i (e + 1) fun j => nrm (f (endQ pl H j))) (updI tv i (e + 1) fun j => .slice (some ⟨a j, 0, none⟩) nv nv)) := hid (fun W h => by
            have h1 := ((h.putP hkt hi hs2 (nrm (f (endQ pl H e)))).drew.putT hkt hi hs2 (.slice (some ⟨a e, 0, none⟩) nv nv)).congr (fun k' i' e' he' => HPVN.out k' i' e' he') (fun k' i' e' he' => HTVN.out k' i' e' he')
            rw [show 2 * i + s = i * 2 + s from by omega] at h1
            exact h1)
          have HSP : Hid (LkM.S t pb tb (pb k) ∧ LkM.S t pb tb (tb k)) := hid ⟨⟨k, hkt, .inl rfl⟩, ⟨k, hkt, .inr rfl⟩⟩
          obtain ⟨pq, hpq⟩ : ∃ x, updI pv i e (fun j => nrm (f (endQ pl H j))) k i s = x := ⟨_, rfl⟩
          obtain ⟨tq, htq⟩ : ∃ x, updI tv i e (fun j => Value.slice (some ⟨a j, 0, none⟩) nv nv) k i s = x := ⟨_, rfl⟩
          rw [hpq] at p0
          rw [htq] at q0
          have HNO := hid (fun W => norm_any (f (endQ pl H e)) W bx.1 bx.2)
          generalize f (endQ pl H e) = x at c1 HNO HMK
          obtain ⟨at', hat⟩ : ∃ y, endQ pl H e = y := ⟨_, rfl⟩
          dsimp only at c0
          rw [hat] at c0 c1 hal
          obtain ⟨ae, hae⟩ : ∃ y, a e = y := ⟨_, rfl⟩
          rw [hae] at c2 HMK
          obtain ⟨pbk, hpb⟩ : ∃ y, pb k = y := ⟨_, rfl⟩
          obtain ⟨tbk, htb⟩ : ∃ y, tb k = y := ⟨_, rfl⟩
          rw [hpb] at l0 p0 p1 HMK HSP HNE HLTs HNP
          rw [htb] at l1 q0 q1 HMK HSP HNE HLTs
          have e0 : (0 : Int) ≤ (e : Int) := by omega
          have e1 : (e : Int) < ((2 * t : Nat) : Int) := by omega
          have e2 : (e : Int) < 2 * (t : Int) := by omega
          have k0 : (0 : Int) ≤ (k : Int) := by omega
          have k1 : (k : Int) < (t : Int) := by omega
          have s0 : (0 : Int) ≤ (s : Int) := by omega
          have s1 : (s : Int) < 2 := by omega
          have i0' : (0 : Int) ≤ (i : Int) := by omega
          have i1' : (i : Int) < (n : Int) := by omega
          have a0 : (0 : Int) ≤ (at' : Int) := by omega
          have a1 : (at' : Int) < 2 * (H : Int) := by omega
          have a2 : (at' : Int) < ((2 * H : Nat) : Int) := by omega
          have hbx := (Below.refl wr.heap.size wr).alloc (Nat.le_refl _) (.cells #[.slice (some ⟨pbk, 0, none⟩) n n, .slice (some ⟨tbk, 0, none⟩) n n] 72)
          have c1' := keepD hbx c1
          have c2' := keepD hbx c2
          have p0' := keepD hbx p0
          have p1' := (hbx.frozen (p := ⟨pbk, i * 2 + s, none⟩) HLTs.out.1).trans p1
          have q0' := keepD hbx q0
          have q1' := (hbx.frozen (p := ⟨tbk, i * 2 + s, none⟩) HLTs.out.2).trans q1
          have x0 : (wr.alloc (.cells #[.slice (some ⟨pbk, 0, none⟩) n n, .slice (some ⟨tbk, 0, none⟩) n n] 72)).cell? ⟨wr.heap.size, 0, none⟩ = some (.slice (some ⟨pbk, 0, none⟩) n n) := by rw [World.cell?_alloc_new]; rfl
          have x1 : (wr.alloc (.cells #[.slice (some ⟨pbk, 0, none⟩) n n, .slice (some ⟨tbk, 0, none⟩) n n] 72)).cell? ⟨wr.heap.size, 1, none⟩ = some (.slice (some ⟨tbk, 0, none⟩) n n) := by rw [World.cell?_alloc_new]; rfl
          have HM2 := hid (HM.out.kept hbx)
          have HS2 : Hid (ButS (LkM.S t pb tb) w1 (wr.alloc (.cells #[.slice (some ⟨pbk, 0, none⟩) n n, .slice (some ⟨tbk, 0, none⟩) n n] 72))) := hid (HS.out.trans (ButS.of hbx))
          have HNB : Hid (pbk ≠ wr.heap.size ∧ tbk ≠ wr.heap.size) := hid (by have := HLTs.out; omega)
          clear hk hs hes bx hpq htq hat hae hpb htb her hbe hal HPVN HTVN p0 p1 q0 q1 c1 c2 hbx HM HS HXE
          go_wp2_with fail
          clear l0 l1 c0 hdk hds
          obtain ⟨BX, hBX⟩ : ∃ BX, wr.heap.size = BX := ⟨_, rfl⟩
          rw [hBX] at x0 x1 HNB ⊢
          clear hBX
          generalize wr.alloc (.cells #[.slice (some ⟨pbk, 0, none⟩) n n, .slice (some ⟨tbk, 0, none⟩) n n] 72) = W2 at c1' c2' p0' p1' q0' q1' x0 x1 HM2 HS2 ⊢
          have HZ : Hid (∀ v, (W2.setCell ⟨pbk, i * 2 + s, none⟩ v).cell? ⟨BX, 0, none⟩ = some (.slice (some ⟨pbk, 0, none⟩) n n) ∧ (W2.setCell ⟨pbk, i * 2 + s, none⟩ v).cell? ⟨b, off + at', none⟩ = some (.int .u64 x)) := hid (fun v => ⟨by rw [World.cell?_setCell_other _ _ _ _ (by intro e; simp only [Addr.mk.injEq] at e; exact HNB.out.1 e.1)]; exact x0, by rw [World.cell?_setCell_other _ _ _ _ (by intro e; simp only [Addr.mk.injEq] at e; exact HNE.out.1 e.1)]; exact c1'⟩)
          go_region_held3 (fun W => W.cell? ⟨BX, 0, none⟩ = some (.slice (some ⟨pbk, 0, none⟩) n n) ∧ W.cell? ⟨b, off + at', none⟩ = some (.int .u64 x)) (first | assumption | exact ⟨x0, c1'⟩ | exact HZ.out _) (first | (go_at_call 16; refine (HNO.out _).mono ?_; rintro e w' ⟨rfl, hw⟩; obtain rfl := hw.symm))
          have HV3 : Hid (W2.heap.size = (W2.setCell ⟨pbk, i * 2 + s, none⟩ (.int .u64 (nrm x))).heap.size) := hid (by rw [World.size_setCell])
          have y1 : (W2.setCell ⟨pbk, i * 2 + s, none⟩ (.int .u64 (nrm x))).cell? ⟨BX, 1, none⟩ = some (.slice (some ⟨tbk, 0, none⟩) n n) := by rw [World.cell?_setCell_other _ _ _ _ (by intro e; simp only [Addr.mk.injEq] at e; exact HNB.out.1 e.1)]; exact x1
          have y2 : (W2.setCell ⟨pbk, i * 2 + s, none⟩ (.int .u64 (nrm x))).cell? ⟨PW, e, none⟩ = some (.slice (some ⟨ae, 0, none⟩) nv nv) := by rw [World.cell?_setCell_other _ _ _ _ (by intro e; simp only [Addr.mk.injEq] at e; exact HNP.out e.1)]; exact c2'
          have y3 : (W2.setCell ⟨pbk, i * 2 + s, none⟩ (.int .u64 (nrm x))).cell? ⟨tbk, i * 2 + s, none⟩ = some tq := by rw [World.cell?_setCell_other _ _ _ _ (by intro e; simp only [Addr.mk.injEq] at e; exact HNE.out.2.2 e.1)]; exact q0'
          have y4 : (W2.setCell ⟨pbk, i * 2 + s, none⟩ (.int .u64 (nrm x))).frozen? ⟨tbk, i * 2 + s, none⟩ = false := by rw [World.frozen?_setCell]; exact q1'
          have HM3 := hid (HMK.out _ HM2.out)
          have HS3 : Hid (ButS (LkM.S t pb tb) w1 (((W2.setCell ⟨pbk, i * 2 + s, none⟩ (.int .u64 (nrm x))).drew.setCell ⟨tbk, i * 2 + s, none⟩ (.slice (some ⟨ae, 0, none⟩) nv nv)))) := hid ((((HS2.out.set HSP.out.1 _).drew).set HSP.out.2 _))
          clear HMK HM2 HS2 HZ x0 x1 c1' c2' p0' p1' q0' q1'
          generalize (W2.setCell ⟨pbk, i * 2 + s, none⟩ (.int .u64 (nrm x))) = W3 at y1 y2 y3 y4 HM3 HS3 HV3 ⊢
          have HZ2 : Hid (∀ v, (W3.setCell ⟨tbk, i * 2 + s, none⟩ v).cell? ⟨BX, 1, none⟩ = some (.slice (some ⟨tbk, 0, none⟩) n n) ∧ (W3.setCell ⟨tbk, i * 2 + s, none⟩ v).cell? ⟨PW, e, none⟩ = some (.slice (some ⟨ae, 0, none⟩) nv nv)) := hid (fun v => ⟨by rw [World.cell?_setCell_other _ _ _ _ (by intro e; simp only [Addr.mk.injEq] at e; exact HNB.out.2 e.1)]; exact y1, by rw [World.cell?_setCell_other _ _ _ _ (by intro e; simp only [Addr.mk.injEq] at e; exact HNE.out.2.1 e.1)]; exact y2⟩)
          go_wp2_with fail
          go_region_held3 (fun W => W.cell? ⟨BX, 1, none⟩ = some (.slice (some ⟨tbk, 0, none⟩) n n) ∧ W.cell? ⟨PW, e, none⟩ = some (.slice (some ⟨ae, 0, none⟩) nv nv)) (first | assumption | exact ⟨y1, y2⟩ | exact HZ2.out _) (fail)
          go_wp2_with fail
          go_roundg (2 * t - (e + 1))
          case measure => go_light; omega
          case rel => exact ⟨e + 1, by omega, rfl, by go_num, (by first | exact HM3 | exact hid HM3.out.drew | exact hid (HM3.out : LkM _ _ _ _ _ _ _ _ _)), (by first | exact HS3 | exact hid HS3.out.drew)⟩
        · have e2 : e = 2 * t := by omega
          subst e2
          go_wp2_with fail
          go_end0
          have hsz := HS.out.size
          refine ⟨rfl, a, HM.out, (ButS.of HW0.out).trans HS.out, fun j hj => ?_⟩
          have h1 := HLY.out.high j hj
          have h2 := HWs.out
          have hns : ¬ LkM.S t pb tb (a j) := fun h => by have h3 := HSL.out _ h; omega
          refine ⟨by omega, by omega, fun q hq => HS.out.cell (HLY.out.row j hj q hq) hns, fun q hq => (World.frozen?_of_block (HS.out.block (a j) h1.2 hns)).trans (HLY.out.may j hj q hq)⟩

end Go.Proofs.YtnnjajmkfgnhcaaDoor
