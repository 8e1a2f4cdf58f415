/-
  Contracts of tallyref's SameCircuit, of its closure, and of slices.Equal and slices.EqualFunc beneath, where both circuits are the same; nothing that was there is written.
-/
import Derived.Test.YtnnnlalhhhhaeaaDoorCirc
import Derived.DeepKeys
import Derived.Deep.RegionWith
import Derived.Deep.LoopGhost
import Derived.Deep.Light
import Derived.Deep.DrawnRows
import Derived.Deep.QuietTactic
namespace Go.Proofs.YtnnnlalhhhhaeaaDoor
open Go.RowKit
set_option linter.unusedVariables false
attribute [local go_sem ↓] Go.wp_at_zero Go.wp_at_succ

theorem Tryd.gatec : Tryd.prog.cellsOf 46 = 3 := by kernel_rfl
theorem Tryd.gateb : Tryd.prog.cellsOf 4 = 1 := by kernel_rfl
theorem Tryd.gatei : Tryd.prog.cellsOf 3 = 1 := by kernel_rfl
theorem i64_wf {a : Int} (h0 : 0 ≤ a) (h1 : a < 100) : (Lit.int .i64 a).wf = true := by
  simp [Lit.wf, IntKind.min, IntKind.max, IntKind.signed, IntKind.bits]
  omega
theorem gate_lits {b : Bool} {x y : Int} (wx : (Lit.int .i64 x).wf = true) (wy : (Lit.int .i64 y).wf = true) : Tryd.prog.keyLits 2 46 [.bool b, .int .i64 x, .int .i64 y] = some [.bool b, .int .i64 x, .int .i64 y] := by
  have he := Tryd.underlying46
  have h1 := Tryd.underlying4
  have h2 := Tryd.underlying3
  simp [Program.keyLits, he, h1, h2, Tryd.gatec, Tryd.gateb, Tryd.gatei, wx, wy]
theorem gate_eq {b : Bool} {x y : Int} (x0 : 0 ≤ x) (x1 : x < 100) (y0 : 0 ≤ y) (y1 : y < 100) (W : World) :
    (Op.equalIn 10000 46 (.agg #[.bool b, .int .i64 x, .int .i64 y]) (.agg #[.bool b, .int .i64 x, .int .i64 y])).run Tryd.prog W = .ok true W := by
  obtain ⟨r, hr, hiff⟩ := run_equalIn_deep (P := Tryd.prog) 9998 2 46 (by kernel_rfl) W 2 2 (.agg #[.bool b, .int .i64 x, .int .i64 y]) (.agg #[.bool b, .int .i64 x, .int .i64 y]) [.bool b, .int .i64 x, .int .i64 y] [.bool b, .int .i64 x, .int .i64 y]
    (by simp [Value.formed, Tryd.gatec]) (by simp [Value.formed, Tryd.gatec])
    (by simpa [Value.cells] using gate_lits (i64_wf x0 x1) (i64_wf y0 y1)) (by simpa [Value.cells] using gate_lits (i64_wf x0 x1) (i64_wf y0 y1))
  rw [hiff.2 rfl] at hr
  exact hr
theorem Tryd.gateG : Tryd.prog.eqGuardType Tryd.prog.depth 46 = false := by kernel_rfl
/-- Gates of small numbers. -/
def smallG (gs : List GQ) : Prop := ∀ q ∈ gs, (0 ≤ q.a ∧ q.a < 100) ∧ 0 ≤ q.b ∧ q.b < 100

set_option maxHeartbeats 2000000 in
set_option maxRecDepth 100000 in
theorem eqgates_ok (a0 a1 : Option Addr) (n c0 c1 : Nat) (gs : List GQ) (w : World) (hn : gs.length = n) (hn5 : n ≤ 100000) (h0 : GRow w a0 gs) (h1 : GRow w a1 gs) (hs : smallG gs) :
    Calls Tryd.prog 17 #[.slice a0 n c0, .slice a1 n c1] w fun e w' => e = .returned (.bool true) ∧ Below w.heap.size w w' := by
  have H0 := hid h0
  have H1 := hid h1
  have HS := hid hs
  have HN := hid hn
  have gg := Tryd.gateG
  clear h0 h1 hs hn
  go_enter Tryd.func17, Tryd.ntmps17
  go_wp2_with fail
  go_loopg [13] n (fun q i wr => ∃ k : Nat, k ≤ n ∧ q = n - k ∧ i = .int .i64 (k : Int) ∧ Hid (Below w.heap.size w wr))
  case atStart => exact ⟨0, by omega, rfl, rfl, hid (Below.refl _ _)⟩
  case round =>
    obtain ⟨k, hk, rfl, rfl, HB⟩ := hrel
    by_cases hlt : k < n
    · obtain ⟨x, hx⟩ : ∃ x, gs[k]? = some x := ⟨gs[k]'(by rw [HN.out]; exact hlt), by simp⟩
      have hne : gs ≠ [] := by intro e; have := HN.out; rw [e] at this; simp at this; omega
      obtain ⟨b1, o1, rfl, r1⟩ := H0.out.kept HB.out hne
      obtain ⟨b2, o2, rfl, r2⟩ := H1.out.kept HB.out hne
      obtain ⟨p0, p1, p2⟩ := r1 k x hx
      obtain ⟨q0, q1, q2⟩ := r2 k x hx
      obtain ⟨⟨s0, s1⟩, s2, s3⟩ := HS.out x (List.mem_of_getElem? hx)
      rw [Nat.mul_comm 3 k] at p0 p1 p2 q0 q1 q2
      obtain ⟨xm, hxm⟩ : ∃ v, x.mul = v := ⟨_, rfl⟩
      obtain ⟨xa, hxa⟩ : ∃ v, x.a = v := ⟨_, rfl⟩
      obtain ⟨xb, hxb⟩ : ∃ v, x.b = v := ⟨_, rfl⟩
      rw [hxm] at p0 q0
      rw [hxa] at p1 q1 s0 s1
      rw [hxb] at p2 q2 s2 s3
      have hq := fun W => gate_eq (b := xm) s0 s1 s2 s3 W
      clear r1 r2 hx hxm hxa hxb hne
      have k0 : (0 : Int) ≤ (k : Int) := by omega
      have k1 : (k : Int) < (n : Int) := by omega
      go_wp2_with fail
      go_quiet (fail)
      go_wp2_with fail
      go_roundg (n - (k + 1))
      case measure => go_light; omega
      case rel => exact ⟨k + 1, by omega, rfl, by go_num, hid ⟨HB.out.os, HB.out.tape, HB.out.output, HB.out.size, HB.out.block⟩⟩
    · have e : k = n := by omega
      subst e
      go_wp2_with fail
      go_ret
      exact ⟨rfl, HB.out⟩

set_option maxHeartbeats 1000000 in
theorem samelay_ok (l : LQ) (lg : Int) (a0 a1 : Option Addr) (n c0 c1 : Nat) (w : World) (hn : l.gates.length = n) (hn5 : n ≤ 100000) (h0 : GRow w a0 l.gates) (h1 : GRow w a1 l.gates) (hs : smallG l.gates) :
    Calls Tryd.prog 16 #[.agg #[.int .i64 lg, .slice a0 n c0], .agg #[.int .i64 lg, .slice a1 n c1]] w fun e w' => e = .returned (.bool true) ∧ Below w.heap.size w w' := by
  have hal := ((Below.refl w.heap.size w).alloc (Nat.le_refl _) (.cells #[.int .i64 lg, .slice a0 n c0] 43)).alloc (by simp) (.cells #[.int .i64 lg, .slice a1 n c1] 43)
  have HE := hid (eqgates_ok a0 a1 n c0 c1 l.gates _ hn hn5 (h0.kept hal) (h1.kept hal) hs)
  have HAL := hid hal
  clear h0 h1 hs hn hal
  go_enter Tryd.func16, Tryd.ntmps16
  go_wp2_with fail
  refine (HE.out).mono ?_
  rintro e w1 ⟨rfl, hb⟩
  have HB := hid (HAL.out.trans (hb.mono HAL.out.size))
  clear hb HE HAL
  go_wp2_with fail
  go_ret
  exact ⟨rfl, HB.out⟩

set_option maxHeartbeats 2000000 in
set_option maxRecDepth 100000 in
theorem eqlayers_ok (a0 a1 : Option Addr) (n c0 c1 : Nat) (ls : List LQ) (A A2 : Nat → Option Addr) (C C2 : Nat → Nat) (w : World) (hn : ls.length = n) (hn5 : n ≤ 100000) (h0 : CRow w a0 ls A C) (h1 : CRow w a1 ls A2 C2) (hs : ∀ l ∈ ls, smallG l.gates ∧ l.gates.length ≤ 100000) :
    Calls Tryd.prog 15 #[.slice a0 n c0, .slice a1 n c1, .func (.func 16) #[] #[]] w fun e w' => e = .returned (.bool true) ∧ Below w.heap.size w w' := by
  have H0 := hid h0
  have H1 := hid h1
  have HS := hid hs
  have HN := hid hn
  clear h0 h1 hs hn
  go_enter Tryd.func15, Tryd.ntmps15
  go_wp2_with fail
  go_loopg [17] n (fun q i wr => ∃ k : Nat, k ≤ n ∧ q = n - k ∧ i = .int .i64 (k : Int) ∧ Hid (Below w.heap.size w wr))
  case atStart => exact ⟨0, by omega, rfl, rfl, hid (Below.refl _ _)⟩
  case round =>
    obtain ⟨k, hk, rfl, rfl, HB⟩ := hrel
    by_cases hlt : k < n
    · obtain ⟨l, hl⟩ : ∃ l, ls[k]? = some l := ⟨ls[k]'(by rw [HN.out]; exact hlt), by simp⟩
      have hne : ls ≠ [] := by intro e; have := HN.out; rw [e] at this; simp at this; omega
      obtain ⟨b1, o1, rfl, r1⟩ := H0.out.kept HB.out hne
      obtain ⟨b2, o2, rfl, r2⟩ := H1.out.kept HB.out hne
      obtain ⟨p0, p1, p2, _⟩ := r1 k l hl
      obtain ⟨q0, q1, q2, _⟩ := r2 k l hl
      have qb : b2 < wr.heap.size := World.block_lt_of_cell? wr _ q0
      obtain ⟨s0, s1⟩ := HS.out l (List.mem_of_getElem? hl)
      rw [Nat.mul_comm 2 k] at p0 p1 q0 q1
      obtain ⟨lg, hlg⟩ : ∃ x, l.log = x := ⟨_, rfl⟩
      obtain ⟨m, hm⟩ : ∃ x, l.gates.length = x := ⟨_, rfl⟩
      obtain ⟨ga, hga⟩ : ∃ x, A k = x := ⟨_, rfl⟩
      obtain ⟨gc, hgc⟩ : ∃ x, C k = x := ⟨_, rfl⟩
      obtain ⟨ha, hha⟩ : ∃ x, A2 k = x := ⟨_, rfl⟩
      obtain ⟨hc, hhc⟩ : ∃ x, C2 k = x := ⟨_, rfl⟩
      rw [hlg] at p0 q0
      rw [hm, hga, hgc] at p1
      rw [hm, hha, hhc] at q1
      rw [hga] at p2
      rw [hha] at q2
      have hal := ((Below.refl wr.heap.size wr).alloc (Nat.le_refl _) (.cells #[.int .i64 lg, .slice ga m gc] 43)).alloc (by simp) (.cells #[.int .i64 lg, .slice ha m hc] 43)
      have HSL := hid (samelay_ok l lg ga ha m gc hc _ hm (by omega) (p2.kept hal) (q2.kept hal) s0)
      have HB1 := hid (HB.out.trans (hal.mono HB.out.size))
      have q0' : ∀ o, (wr.alloc o).cell? ⟨b2, o2 + k * 2, none⟩ = some (.int .i64 lg) := fun o => by rw [World.cell?_alloc_old _ _ _ (Nat.ne_of_lt qb)]; exact q0
      have q1' : ∀ o, (wr.alloc o).cell? ⟨b2, o2 + k * 2 + 1, none⟩ = some (.slice ha m hc) := fun o => by rw [World.cell?_alloc_old _ _ _ (Nat.ne_of_lt qb)]; exact q1
      clear r1 r2 hl hne p2 q2 hlg hm hga hgc hha hhc hal s0 s1
      have k0 : (0 : Int) ≤ (k : Int) := by omega
      have k1 : (k : Int) < (n : Int) := by omega
      go_wp2_with fail
      refine (HSL.out).mono ?_
      rintro e w1 ⟨rfl, hb⟩
      have HB2 := hid (HB1.out.trans (hb.mono HB1.out.size))
      clear hb HSL HB1 q0' q1'
      go_wp2_with fail
      go_roundg (n - (k + 1))
      case measure => go_light; omega
      case rel => exact ⟨k + 1, by omega, rfl, by go_num, HB2⟩
    · have e : k = n := by omega
      subst e
      go_wp2_with fail
      go_ret
      exact ⟨rfl, HB.out⟩

set_option maxHeartbeats 1000000 in
/-- SameCircuit, of two that are the same. -/
theorem samecirc_ok (g : Int) (a0 a1 : Option Addr) (n c0 c1 : Nat) (ls : List LQ) (A A2 : Nat → Option Addr) (C C2 : Nat → Nat) (w : World) (hn : ls.length = n) (hn5 : n ≤ 100000) (h0 : CRow w a0 ls A C) (h1 : CRow w a1 ls A2 C2) (hs : ∀ l ∈ ls, smallG l.gates ∧ l.gates.length ≤ 100000) :
    Calls Tryd.prog 7 #[.agg #[.int .i64 g, .slice a0 n c0], .agg #[.int .i64 g, .slice a1 n c1]] w fun e w' => e = .returned (.bool true) ∧ Below w.heap.size w w' := by
  have hal := ((Below.refl w.heap.size w).alloc (Nat.le_refl _) (.cells #[.int .i64 g, .slice a0 n c0] 24)).alloc (by simp) (.cells #[.int .i64 g, .slice a1 n c1] 24)
  have HE := hid (eqlayers_ok a0 a1 n c0 c1 ls A A2 C C2 _ hn hn5 (h0.kept hal) (h1.kept hal) hs)
  have HAL := hid hal
  clear h0 h1 hs hn hal
  go_enter Tryd.func7, Tryd.ntmps7
  go_wp2_with fail
  refine (HE.out).mono ?_
  rintro e w1 ⟨rfl, hb⟩
  have HB := hid (HAL.out.trans (hb.mono HAL.out.size))
  clear hb HE HAL
  go_wp2_with fail
  go_ret
  exact ⟨rfl, HB.out⟩

end Go.Proofs.YtnnnlalhhhhaeaaDoor
