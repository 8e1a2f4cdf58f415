/-
  A contract of tallyref's Values, for right circuits and inputs; it makes new blocks and writes nothing that was there.
-/
import Derived.Test.YtoogpkcpheannabDoorCircM
import Derived.Test.YtoogpkcpheannabDoorCircL
import Derived.Test.YtoogpkcpheannabDoorRefA
import Derived.Test.YtoogpkcpheannabDoorRefN
import Derived.Deep.RegionHeld3
import Derived.Deep.RegionWith
import Derived.Deep.LoopGhost
import Derived.Deep.Light
import Derived.Deep.DrawnRows
import Derived.Deep.QuietTactic
import Derived.Deep.Onto
namespace Go.Proofs.YtoogpkcpheannabDoor
open Go.RowKit
set_option linter.unusedVariables false
attribute [local go_sem ↓] Go.wp_at_zero Go.wp_at_succ

theorem vnews (w : World) (x : Int) (t : TypeId) : ∀ j u, [Value.int .u64 x][j]? = some u → (w.alloc (.cells #[.int .u64 x] t)).cell? ((⟨w.heap.size, 0, none⟩ : Addr).add j) = some u := by
  intro j u hj
  match j, hj with
  | 0, hj => simp at hj; subst hj; simp [Addr.add]
theorem vone (x : Int) : ∀ u ∈ [Value.int .u64 x], u.oneCell' = true := by intro u hu; simp at hu; subst hu; rfl
/-- One number more behind a list of the call's own. -/
theorem vsnoc {w w1 w2 : World} {B : Nat} {v : Value} {n g c : Nat} {F : Nat → Int} {x : Int} {t : TypeId} (hb : Below B w w1) (hB : B ≤ w1.heap.size) (ho : Own w1 B v n F)
    (hown : w2.ownsRow B 23 1 (.slice (some ⟨g, 0, none⟩) (n + 1) c) (n + 1) (cellsOf n F ++ [.int .u64 x])) (hg : (w1.alloc (.cells #[.int .u64 x] t)).grownBy w2 v.ownBlock)
    (hx : F n = x) : Own w2 B (.slice (some ⟨g, 0, none⟩) (n + 1) c) (n + 1) F ∧ Below B w w2 := by
  refine ⟨?_, (hb.alloc hB _).grown hg (by simp; omega) (by intro t ht; exact (World.ownsRow.lt ho t ht).1)⟩
  rw [cellsOf_snoc] at hown
  exact Own.congr hown fun j hj => by
    unfold catF
    by_cases e : j < n
    · rw [if_pos e]
    · rw [if_neg e, show j = n from by omega]; exact hx.symm
theorem layV_at2 {gs : List GQ} {F : Nat → Int} {t : Nat} {x : GQ} (h : gs[t]? = some x) : layV gs F t = if x.mul then mulQ (F x.a.toNat) (F x.b.toNat) else addQ (F x.a.toNat) (F x.b.toNat) := by
  unfold layV; rw [h]
theorem grown_cell {w w2 : World} {o : Obj} {r : Option Nat} {b p : Nat} {u : Value} (hg : (w.alloc o).drew.grownBy w2 r) (hne : some b ≠ r) (hb : b < w.heap.size) (h : w.cell? ⟨b, p, none⟩ = some u) : w2.cell? ⟨b, p, none⟩ = some u := by
  refine hg.cell ?_ hne
  show (w.alloc o).cell? _ = _
  rw [World.cell?_alloc_old _ _ _ (Nat.ne_of_lt hb)]; exact h
theorem grown_undrew {w w2 : World} {r : Option Nat} (h : w.drew.grownBy w2 r) : w.grownBy w2 r := ⟨h.os, h.tape, h.output, h.size, h.block⟩

set_option maxHeartbeats 1000000 in
set_option maxRecDepth 100000 in
theorem rvals_zero (g : Int) (ao : Option Addr) (n cap db doff N kc : Nat) (f : Nat → Int) (w : World) (hN : N ≤ 1000) (hr : Row w db doff N f) (hf : Nums f) :
    Calls Tryd.prog 17 #[.agg #[.int .i64 g, .slice ao n cap], .slice (some ⟨db, doff, none⟩) N kc, .int .i64 (-1)] w fun e w' => ∃ v, e = .returned v ∧ Own w' w.heap.size v N (fun j => nrm (f j)) ∧ Below w.heap.size w w' := by
  obtain ⟨i0, hi, hz0, hz1, hz2⟩ := info_parts Tryd.infoO
  have HI := hid (And.intro hi (And.intro hz0 (And.intro hz1 hz2)))
  clear hi hz0 hz1 hz2
  have HR := hid hr
  have HF := hid hf
  clear hr hf
  go_enter Tryd.func17, Tryd.ntmps17
  go_wp2_with fail
  have HW0 := hid ((Below.refl w.heap.size w).alloc (Nat.le_refl _) (.cells #[.int .i64 g, .slice ao n cap] 39))
  generalize w.alloc (.cells #[.int .i64 g, .slice ao n cap] 39) = W0 at HW0 ⊢
  go_loopg [7, 8] N (fun q o i wr => ∃ (k : Nat) (v : Value), k ≤ N ∧ q = N - k ∧ o = v ∧ i = .int .i64 (k : Int) ∧ Hid (Own wr w.heap.size v k (fun j => nrm (f j))) ∧ Hid (Below w.heap.size w wr))
  case atStart => exact ⟨0, _, by omega, rfl, rfl, rfl, hid (Own.nil _ _ _), HW0⟩
  case round =>
    clear HW0
    obtain ⟨k, v, hk, rfl, rfl, rfl, HO, HB⟩ := hrel
    by_cases hlt : k < N
    · have c1 : wr.cell? ⟨db, doff + k, none⟩ = some (.int .u64 (f k)) := (HR.out.kept HB.out (HR.out.lt (by omega))) k hlt
      obtain ⟨a, ha⟩ : ∃ a, f k = a := ⟨_, rfl⟩
      obtain ⟨a0, a1⟩ := HF.out k
      rw [ha] at c1 a0 a1
      have HY : Hid ((fun j => nrm (f j)) k = nrm a) := hid (by show nrm (f k) = _; rw [ha])
      have k0 : (0 : Int) ≤ (k : Int) := by omega
      have k1 : (k : Int) < (N : Int) := by omega
      have hs := HB.out.size
      clear ha
      have HNN := hid (rnorm_any a wr a0 a1)
      obtain ⟨y, hy⟩ : ∃ y, nrm a = y := ⟨_, rfl⟩
      rw [hy] at HY HNN
      clear hy
      go_wp2_with fail
      refine (HNN.out).mono ?_
      rintro e w' ⟨rfl, hw⟩
      obtain rfl := hw.symm
      go_wp2_with (at_builtin; refine wpList_append_lies _ rfl _ _ 22 rfl w.heap.size 23 i0 (.int .u64 0) 1 8 Tryd.underlying22 HI.out.1 HI.out.2.1 HI.out.2.2.1 HI.out.2.2.2 rfl (by decide) _ _ _ rfl (World.ownsRow.alloc HO.out _) ⟨wr.heap.size, 0, none⟩ 1 1 [.int .u64 y] rfl rfl (vnews wr y _) (vone y) (by omega) (by unfold maxLen; omega) (by omega) (by simp; omega) (wr.heap.size + 1) (by simp) ?_)
      intro g2 c2 w6 hown2 hgrow2 hat2 hlt2
      have HS := hid (vsnoc HB.out hs HO.out hown2 hgrow2 HY.out)
      clear hown2 hgrow2 hat2 hlt2
      go_wp2_with fail
      go_roundg (N - (k + 1))
      case measure => go_light; omega
      case rel => exact ⟨k + 1, _, by omega, rfl, rfl, by go_num, hid HS.out.1, hid HS.out.2⟩
    · have e : k = N := by omega
      subst e
      go_wp2_with fail
      go_ret
      exact ⟨_, rfl, HO.out, HB.out⟩

set_option maxHeartbeats 1000000 in
set_option maxRecDepth 100000 in
theorem rvals_step (l : LQ) (g : Int) (b off n cap : Nat) (ga : Option Addr) (gc : Nat) (ad : Option Addr) (N kc k nb m : Nat) (F G : Nat → Int) (w : World) (hk : k < n) (n4 : n ≤ 4) (hm : l.gates.length = m) (m16 : m ≤ 16) (nb16 : nb ≤ 16) (hF : Nums F) (hG : layV l.gates F = G)
    (hc : w.cell? ⟨b, off + 2 * k + 1, none⟩ = some (.slice ga m gc)) (hgr : GRow w ga l.gates) (hok : ∀ q ∈ l.gates, gateOk (nb : Int) q)
    (ih : ∀ W, Below w.heap.size w W → Calls Tryd.prog 17 #[.agg #[.int .i64 g, .slice (some ⟨b, off, none⟩) n cap], .slice ad N kc, .int .i64 ((k : Int) - 1)] W fun e w' => ∃ v, e = .returned v ∧ Own w' W.heap.size v nb F ∧ Below W.heap.size W w') :
    Calls Tryd.prog 17 #[.agg #[.int .i64 g, .slice (some ⟨b, off, none⟩) n cap], .slice ad N kc, .int .i64 (k : Int)] w fun e w' => ∃ v, e = .returned v ∧ Own w' w.heap.size v m G ∧ Below w.heap.size w w' := by
  obtain ⟨i0, hi, hz0, hz1, hz2⟩ := info_parts Tryd.infoO
  have HI := hid (And.intro hi (And.intro hz0 (And.intro hz1 hz2)))
  clear hi hz0 hz1 hz2
  rw [Nat.mul_comm 2 k] at hc
  have bl : b < w.heap.size := World.block_lt_of_cell? w _ hc
  have HC := hid (And.intro hc bl)
  have HGR := hid hgr
  have HOK := hid hok
  have HF := hid hF
  have HG := hid hG
  have HM := hid hm
  have HIH := hid ih
  have kk0 : ¬ ((k : Int) < 0) := by omega
  have k0 : (0 : Int) ≤ (k : Int) := by omega
  have k1 : (k : Int) < (n : Int) := by omega
  clear hc hgr hok hF hG hm ih bl
  go_enter Tryd.func17, Tryd.ntmps17
  go_wp2_with fail
  have HW0 := hid ((Below.refl w.heap.size w).alloc (Nat.le_refl _) (.cells #[.int .i64 g, .slice (some ⟨b, off, none⟩) n cap] 39))
  have HX0 := hid (Box2.new w (.int .i64 g) (.slice (some ⟨b, off, none⟩) n cap) 39)
  obtain ⟨B, hB⟩ : ∃ B, w.heap.size = B := ⟨_, rfl⟩
  rw [hB] at HX0 ⊢
  have HBE := hid hB
  clear hB
  refine (HIH.out _ HW0.out).mono ?_
  rintro e w3 ⟨vb, rfl, hob, hbb⟩
  obtain ⟨ab, cb, rfl, hpb, _⟩ := hob.is
  have HX3 := hid (HX0.out.kept hbb)
  have HW3 := hid (HW0.out.trans (hbb.mono HW0.out.size))
  have HPB := hid hpb
  clear hob hbb hpb HX0 HW0 HIH
  obtain ⟨E, hE⟩ : ∃ E, w3.heap.size = E := ⟨_, rfl⟩
  have HEE := hid hE
  clear hE
  go_wp2_with fail
  go_loopg [7, 10] m (fun q o i wr => ∃ (t : Nat) (v : Value), t ≤ m ∧ q = m - t ∧ o = v ∧ i = .int .i64 (t : Int) ∧ Hid (Own wr E v t G) ∧ Hid (Below E w3 wr))
  case atStart => exact ⟨0, _, by omega, rfl, rfl, rfl, hid (Own.nil _ _ _), hid (Below.refl _ _)⟩
  case round =>
    obtain ⟨t, v, ht, rfl, hv, rfl, HO, HB⟩ := hrel
    obtain rfl := hv.symm
    have hs : E ≤ wr.heap.size := by have h1 := HB.out.size; have h2 := HEE.out; omega
    have HB3 : Hid (Below w.heap.size w wr) := hid (HW3.out.trans (HB.out.mono (by have h1 := HW3.out.size; have h2 := HEE.out; omega)))
    have hbw : Below w3.heap.size w3 wr := by rw [HEE.out]; exact HB.out
    obtain ⟨x0, x1, xl⟩ := HX3.out.kept hbw
    have y1 : wr.cell? ⟨b, off + k * 2 + 1, none⟩ = some (.slice ga m gc) := (HB3.out.cell HC.out.2).trans HC.out.1
    by_cases htl : t < m
    · obtain ⟨x, hx⟩ : ∃ x, l.gates[t]? = some x := ⟨l.gates[t]'(by rw [HM.out]; exact htl), by simp⟩
      obtain ⟨gb, go, rfl, hgc⟩ := HGR.out.kept HB3.out (by intro e; have := HM.out; rw [e] at this; simp at this; omega)
      obtain ⟨q0, q1, q2⟩ := hgc t x hx
      obtain ⟨⟨a0, a1⟩, b0, b1⟩ := HOK.out x (List.mem_of_getElem? hx)
      rw [Nat.mul_comm 3 t] at q0 q1 q2
      obtain ⟨xm, hxm⟩ : ∃ v, x.mul = v := ⟨_, rfl⟩
      obtain ⟨ia, hia⟩ : ∃ v : Nat, x.a = (v : Int) := ⟨x.a.toNat, by omega⟩
      obtain ⟨ib, hib⟩ : ∃ v : Nat, x.b = (v : Int) := ⟨x.b.toNat, by omega⟩
      rw [hxm] at q0
      rw [hia] at q1 a1
      rw [hib] at q2 b1
      have hlay := layV_at2 (F := F) hx
      rw [hxm, hia, hib, Int.toNat_natCast, Int.toNat_natCast, HG.out] at hlay
      clear hgc hx hxm hia hib a0 b0
      obtain ⟨bb, boff, eb, hrow⟩ := HPB.out.kept hbw (by omega)
      subst eb
      obtain ⟨va, hva⟩ : ∃ v, F ia = v := ⟨_, rfl⟩
      obtain ⟨vb, hvb⟩ : ∃ v, F ib = v := ⟨_, rfl⟩
      have ca := hrow ia (by omega)
      have cb2 := hrow ib (by omega)
      have bbl : bb < wr.heap.size := World.block_lt_of_cell? wr _ ca
      have bbE : bb < E := by obtain ⟨b9, o9, e9, h9⟩ := HPB.out (by omega); cases e9; rw [← HEE.out]; exact World.block_lt_of_cell? w3 _ (h9 ia (by omega))
      obtain ⟨va0, va1⟩ := HF.out ia
      obtain ⟨vb0, vb1⟩ := HF.out ib
      rw [hva] at va0 va1 hlay ca
      rw [hvb] at vb0 vb1 hlay cb2
      clear hva hvb hrow hbw
      have t0 : (0 : Int) ≤ (t : Int) := by omega
      have t1 : (t : Int) < (m : Int) := by omega
      have i1 : (0 : Int) ≤ (ia : Int) := by omega
      have i2 : (0 : Int) ≤ (ib : Int) := by omega
      have i3 : ia < nb := by omega
      have i4 : ib < nb := by omega
      rcases (by cases xm; exact .inr rfl; exact .inl rfl : xm = true ∨ xm = false) with hxm | hxm
      · subst hxm
        rw [if_pos rfl] at hlay
        obtain ⟨y, hy⟩ : ∃ y, mulQ va vb = y := ⟨_, rfl⟩
        have HMU := hid (fun W => rmul_any va vb W (by omega) (by omega) (by omega) (by omega))
        rw [hy] at HMU hlay
        have HLAY := hid hlay
        have hal := (Below.refl wr.heap.size wr).alloc (Nat.le_refl _) (.cells #[.bool true, .int .i64 (ia : Int), .int .i64 (ib : Int)] 66)
        clear hlay hy
        go_wp2_with fail
        have HNE : Hid (some bb ≠ v.ownBlock ∧ some wr.heap.size ≠ v.ownBlock) := hid ⟨fun e => by have := (World.ownsRow.lt HO.out bb e.symm).1; omega, fun e => by have := (World.ownsRow.lt HO.out _ e.symm).2; omega⟩
        have HO1 := hid (HO.out.kept hal)
        have HB1 := hid (HB.out.trans (hal.mono hs))
        have g0 : (wr.alloc (.cells #[.bool true, .int .i64 (ia : Int), .int .i64 (ib : Int)] 66)).cell? ⟨wr.heap.size, 1, none⟩ = some (.int .i64 (ia : Int)) := by rw [World.cell?_alloc_new]; rfl
        have g1 : (wr.alloc (.cells #[.bool true, .int .i64 (ia : Int), .int .i64 (ib : Int)] 66)).cell? ⟨wr.heap.size, 2, none⟩ = some (.int .i64 (ib : Int)) := by rw [World.cell?_alloc_new]; rfl
        have g2 : (wr.alloc (.cells #[.bool true, .int .i64 (ia : Int), .int .i64 (ib : Int)] 66)).cell? ⟨bb, boff + ia, none⟩ = some (.int .u64 va) := (hal.cell (p := ⟨bb, boff + ia, none⟩) bbl).trans ca
        have g3 : (wr.alloc (.cells #[.bool true, .int .i64 (ia : Int), .int .i64 (ib : Int)] 66)).cell? ⟨bb, boff + ib, none⟩ = some (.int .u64 vb) := (hal.cell (p := ⟨bb, boff + ib, none⟩) bbl).trans cb2
        have gsz : (wr.alloc (.cells #[.bool true, .int .i64 (ia : Int), .int .i64 (ib : Int)] 66)).heap.size = wr.heap.size + 1 := by simp
        obtain ⟨Gb, hGb⟩ : ∃ G, wr.heap.size = G := ⟨_, rfl⟩
        rw [hGb] at g0 g1 gsz hs bbl HNE ⊢
        clear hGb hal q0 q1 q2 ca cb2
        generalize wr.alloc (.cells #[.bool true, .int .i64 (ia : Int), .int .i64 (ib : Int)] 66) = W1 at HO1 HB1 g0 g1 g2 g3 gsz ⊢
        have HS4 := hid (And.intro g0 (And.intro g1 (And.intro g2 g3)))
        have sz1 : Gb < W1.heap.size := by omega
        have sz2 : bb < W1.heap.size := by omega
        have sz3 : E ≤ W1.heap.size := by omega
        clear gsz
        have HK : Hid (∀ o, (W1.alloc o).cell? ⟨Gb, 1, none⟩ = some (.int .i64 (ia : Int)) ∧ (W1.alloc o).cell? ⟨Gb, 2, none⟩ = some (.int .i64 (ib : Int)) ∧ (W1.alloc o).cell? ⟨bb, boff + ia, none⟩ = some (.int .u64 va) ∧ (W1.alloc o).cell? ⟨bb, boff + ib, none⟩ = some (.int .u64 vb)) := hid fun o => by
          refine ⟨?_, ?_, ?_, ?_⟩
          · rw [World.cell?_alloc_old _ _ _ (Nat.ne_of_lt sz1)]; exact g0
          · rw [World.cell?_alloc_old _ _ _ (Nat.ne_of_lt sz1)]; exact g1
          · rw [World.cell?_alloc_old _ _ _ (Nat.ne_of_lt sz2)]; exact g2
          · rw [World.cell?_alloc_old _ _ _ (Nat.ne_of_lt sz2)]; exact g3
        go_region_held3 (fun w' => w'.cell? ⟨Gb, 1, none⟩ = some (.int .i64 (ia : Int)) ∧ w'.cell? ⟨Gb, 2, none⟩ = some (.int .i64 (ib : Int)) ∧ w'.cell? ⟨bb, boff + ia, none⟩ = some (.int .u64 va) ∧ w'.cell? ⟨bb, boff + ib, none⟩ = some (.int .u64 vb)) (first | assumption | exact HS4.out | exact HK.out _ | exact hk3) (first
          | (go_at_call 34; refine (HMU.out _).mono ?_; rintro e w' ⟨rfl, hw⟩; obtain rfl := hw.symm)
          | (refine step_append_lies _ (by rfl) _ _ 22 (by rfl) E 23 i0 (.int .u64 0) 1 8 Tryd.underlying22 HI.out.1 HI.out.2.1 HI.out.2.2.1 HI.out.2.2.2 rfl (by decide) v t (cellsOf t G) (by rfl) (World.ownsRow.alloc HO1.out _) ⟨W1.heap.size, 0, none⟩ 1 1 [.int .u64 y] (by rfl) (by rfl) (vnews W1 y _) (vone y) (by omega) (by unfold maxLen; omega) (by omega) (by simp; omega) (W1.heap.size + 1) (by simp) ?_; intro g2' c2' w6 hown2 hgrow2 hat2 hlt2; have hk3 : w6.cell? ⟨Gb, 1, none⟩ = some (.int .i64 (ia : Int)) ∧ w6.cell? ⟨Gb, 2, none⟩ = some (.int .i64 (ib : Int)) ∧ w6.cell? ⟨bb, boff + ia, none⟩ = some (.int .u64 va) ∧ w6.cell? ⟨bb, boff + ib, none⟩ = some (.int .u64 vb) := ⟨grown_cell hgrow2 HNE.out.2 sz1 HS4.out.1, grown_cell hgrow2 HNE.out.2 sz1 HS4.out.2.1, grown_cell hgrow2 HNE.out.1 sz2 HS4.out.2.2.1, grown_cell hgrow2 HNE.out.1 sz2 HS4.out.2.2.2⟩))
        have HS := hid (vsnoc HB1.out sz3 HO1.out hown2 (grown_undrew hgrow2) HLAY.out)
        clear hown2 hgrow2 hat2 hlt2
        go_wp2_with fail
        go_roundg (m - (t + 1))
        case measure => go_light; omega
        case rel => exact ⟨t + 1, _, by omega, rfl, rfl, by go_num, hid HS.out.1, hid HS.out.2⟩
      · subst hxm
        rw [if_neg (by decide)] at hlay
        obtain ⟨y, hy⟩ : ∃ y, addQ va vb = y := ⟨_, rfl⟩
        have HMU := hid (fun W => radd_any va vb W (by omega) (by omega) (by omega) (by omega))
        rw [hy] at HMU hlay
        have HLAY := hid hlay
        have hal := (Below.refl wr.heap.size wr).alloc (Nat.le_refl _) (.cells #[.bool false, .int .i64 (ia : Int), .int .i64 (ib : Int)] 66)
        clear hlay hy
        go_wp2_with fail
        have HNE : Hid (some bb ≠ v.ownBlock ∧ some wr.heap.size ≠ v.ownBlock) := hid ⟨fun e => by have := (World.ownsRow.lt HO.out bb e.symm).1; omega, fun e => by have := (World.ownsRow.lt HO.out _ e.symm).2; omega⟩
        have HO1 := hid (HO.out.kept hal)
        have HB1 := hid (HB.out.trans (hal.mono hs))
        have g0 : (wr.alloc (.cells #[.bool false, .int .i64 (ia : Int), .int .i64 (ib : Int)] 66)).cell? ⟨wr.heap.size, 1, none⟩ = some (.int .i64 (ia : Int)) := by rw [World.cell?_alloc_new]; rfl
        have g1 : (wr.alloc (.cells #[.bool false, .int .i64 (ia : Int), .int .i64 (ib : Int)] 66)).cell? ⟨wr.heap.size, 2, none⟩ = some (.int .i64 (ib : Int)) := by rw [World.cell?_alloc_new]; rfl
        have g2 : (wr.alloc (.cells #[.bool false, .int .i64 (ia : Int), .int .i64 (ib : Int)] 66)).cell? ⟨bb, boff + ia, none⟩ = some (.int .u64 va) := (hal.cell (p := ⟨bb, boff + ia, none⟩) bbl).trans ca
        have g3 : (wr.alloc (.cells #[.bool false, .int .i64 (ia : Int), .int .i64 (ib : Int)] 66)).cell? ⟨bb, boff + ib, none⟩ = some (.int .u64 vb) := (hal.cell (p := ⟨bb, boff + ib, none⟩) bbl).trans cb2
        have gsz : (wr.alloc (.cells #[.bool false, .int .i64 (ia : Int), .int .i64 (ib : Int)] 66)).heap.size = wr.heap.size + 1 := by simp
        obtain ⟨Gb, hGb⟩ : ∃ G, wr.heap.size = G := ⟨_, rfl⟩
        rw [hGb] at g0 g1 gsz hs bbl HNE ⊢
        clear hGb hal q0 q1 q2 ca cb2
        generalize wr.alloc (.cells #[.bool false, .int .i64 (ia : Int), .int .i64 (ib : Int)] 66) = W1 at HO1 HB1 g0 g1 g2 g3 gsz ⊢
        have HS4 := hid (And.intro g0 (And.intro g1 (And.intro g2 g3)))
        have sz1 : Gb < W1.heap.size := by omega
        have sz2 : bb < W1.heap.size := by omega
        have sz3 : E ≤ W1.heap.size := by omega
        clear gsz
        have HK : Hid (∀ o, (W1.alloc o).cell? ⟨Gb, 1, none⟩ = some (.int .i64 (ia : Int)) ∧ (W1.alloc o).cell? ⟨Gb, 2, none⟩ = some (.int .i64 (ib : Int)) ∧ (W1.alloc o).cell? ⟨bb, boff + ia, none⟩ = some (.int .u64 va) ∧ (W1.alloc o).cell? ⟨bb, boff + ib, none⟩ = some (.int .u64 vb)) := hid fun o => by
          refine ⟨?_, ?_, ?_, ?_⟩
          · rw [World.cell?_alloc_old _ _ _ (Nat.ne_of_lt sz1)]; exact g0
          · rw [World.cell?_alloc_old _ _ _ (Nat.ne_of_lt sz1)]; exact g1
          · rw [World.cell?_alloc_old _ _ _ (Nat.ne_of_lt sz2)]; exact g2
          · rw [World.cell?_alloc_old _ _ _ (Nat.ne_of_lt sz2)]; exact g3
        go_region_held3 (fun w' => w'.cell? ⟨Gb, 1, none⟩ = some (.int .i64 (ia : Int)) ∧ w'.cell? ⟨Gb, 2, none⟩ = some (.int .i64 (ib : Int)) ∧ w'.cell? ⟨bb, boff + ia, none⟩ = some (.int .u64 va) ∧ w'.cell? ⟨bb, boff + ib, none⟩ = some (.int .u64 vb)) (first | assumption | exact HS4.out | exact HK.out _ | exact hk3) (first
          | (go_at_call 35; refine (HMU.out _).mono ?_; rintro e w' ⟨rfl, hw⟩; obtain rfl := hw.symm)
          | (refine step_append_lies _ (by rfl) _ _ 22 (by rfl) E 23 i0 (.int .u64 0) 1 8 Tryd.underlying22 HI.out.1 HI.out.2.1 HI.out.2.2.1 HI.out.2.2.2 rfl (by decide) v t (cellsOf t G) (by rfl) (World.ownsRow.alloc HO1.out _) ⟨W1.heap.size, 0, none⟩ 1 1 [.int .u64 y] (by rfl) (by rfl) (vnews W1 y _) (vone y) (by omega) (by unfold maxLen; omega) (by omega) (by simp; omega) (W1.heap.size + 1) (by simp) ?_; intro g2' c2' w6 hown2 hgrow2 hat2 hlt2; have hk3 : w6.cell? ⟨Gb, 1, none⟩ = some (.int .i64 (ia : Int)) ∧ w6.cell? ⟨Gb, 2, none⟩ = some (.int .i64 (ib : Int)) ∧ w6.cell? ⟨bb, boff + ia, none⟩ = some (.int .u64 va) ∧ w6.cell? ⟨bb, boff + ib, none⟩ = some (.int .u64 vb) := ⟨grown_cell hgrow2 HNE.out.2 sz1 HS4.out.1, grown_cell hgrow2 HNE.out.2 sz1 HS4.out.2.1, grown_cell hgrow2 HNE.out.1 sz2 HS4.out.2.2.1, grown_cell hgrow2 HNE.out.1 sz2 HS4.out.2.2.2⟩))
        have HS := hid (vsnoc HB1.out sz3 HO1.out hown2 (grown_undrew hgrow2) HLAY.out)
        clear hown2 hgrow2 hat2 hlt2
        go_wp2_with fail
        go_roundg (m - (t + 1))
        case measure => go_light; omega
        case rel => exact ⟨t + 1, _, by omega, rfl, rfl, by go_num, hid HS.out.1, hid HS.out.2⟩
    · have e : t = m := by omega
      subst e
      go_wp2_with fail
      go_ret
      exact ⟨_, rfl, (World.ownsRow.mono HO.out (by have h1 := HW3.out.size; have h2 := HEE.out; omega)), HB3.out⟩

/-- Values, of every layer of a right circuit, the inputs first. -/
theorem rvals_any (c : CQ) (g : Int) (b off n cap : Nat) (A : Nat → Option Addr) (C : Nat → Nat) (db doff N kc : Nat) (f : Nat → Int) (hn : c.layers.length = n) (hc : c.right) (hN : lenQ c 0 = N) (hf : Nums f) (k : Nat) (hk : k ≤ n) :
    ∀ (z : Int) (w : World), z = (k : Int) - 1 → CRow w (some ⟨b, off, none⟩) c.layers A C → Row w db doff N f →
    Calls Tryd.prog 17 #[.agg #[.int .i64 g, .slice (some ⟨b, off, none⟩) n cap], .slice (some ⟨db, doff, none⟩) N kc, .int .i64 z] w fun e w' => ∃ v, e = .returned v ∧ Own w' w.heap.size v (lenQ c k) (valsQ c f k) ∧ Below w.heap.size w w' := by
  have n4 : n ≤ 4 := by have := hc.few; omega
  have N16 := lenQ_rng hc 0 (Nat.zero_le _)
  have N0 : 0 < N := by omega
  induction k with
  | zero =>
    intro z w hz hr hi
    rw [show z = -1 from by omega, hN]
    exact rvals_zero g _ n cap db doff N kc f w (by omega) hi hf
  | succ k ih =>
    intro z w hz hr hi
    rw [show z = (k : Int) from by omega]
    obtain ⟨l, hl⟩ : ∃ l, c.layers[k]? = some l := ⟨c.layers[k]'(by omega), by simp⟩
    obtain ⟨b', off', eb, hcell⟩ := hr (by intro e; rw [e] at hn; simp at hn; omega)
    cases eb
    obtain ⟨y0, y1, y2, y3⟩ := hcell k l hl
    have mr := lenQ_rng hc (k + 1) (by omega)
    have nr := lenQ_rng hc k (by omega)
    refine rvals_step l g b off n cap (A k) (C k) (some ⟨db, doff, none⟩) N kc k (lenQ c k) (lenQ c (k + 1)) (valsQ c f k) (valsQ c f (k + 1)) w (by omega) n4 (lenQ_layer hc hl) mr.2 nr.2 (Nums_vals c f k) (vals_layer hl) ?_ y2 (hc.layer k l hl).2.2 ?_
    · rw [← lenQ_layer hc hl]; exact y1
    · intro W hb
      refine ih (by omega) ((k : Int) - 1) W rfl (hr.kept hb) ?_
      exact hi.kept hb (hi.lt N0)

end Go.Proofs.YtoogpkcpheannabDoor
