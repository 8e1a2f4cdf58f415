/-
  Whatever lists of numbers of 64 bits, whatever integers and whatever number are handed in, the law MleCorners answers true and writes nothing that was there: where all variables are 0 or 1 a table is its numbers; it is fixed variable by variable; in each variable it goes straight; no condition; tied to the program's text: Go's two tables deBruijn32tab and deBruijn64tab hold what math/bits lays.
-/
import Derived.Test.YtoogpkcpheannadDoorRows
import Derived.Test.YtoogpkcpheannadDoorCards
import Derived.Test.YtoogpkcpheannadDoorTie
import Derived.Test.YtoogpkcpheannadDoorWrap
import Derived.Test.YtoogpkcpheannadDoorLaid
import Derived.SevenTiedAt
import Derived.WalkKit
import Derived.Test.YtoogpkcpheannadDoorMleEv
import Derived.Test.YtoogpkcpheannadDoorKeep
import Derived.Test.YtoogpkcpheannadDoorRefVars
import Derived.Test.YtoogpkcpheannadDoorCorner
import Derived.ProofKit
import Derived.OpenShut
import Derived.ShutString
import Derived.ChangeOld
import Derived.Below
namespace Go.Proofs.YtoogpkcpheannadDoor.mleCorners
open Go.ChangeShapes Go.WideShapes Go.ChangeAt Go.RowKit
open Go.ChangeMaps (open_string shut_string)
set_option linter.unusedVariables false

theorem own : ownKnob Tryd.prog.godebug = none := by kernel_rfl
theorem laidOut : laidOutB Tryd.prog = true := by kernel_rfl

/-- WHAT THE WALK IS TOLD OF A SLICE OF INTEGERS THAT CAME IN: it is nil; or it leads to a row of 'cap' cells, the numbers 'zs' (the first 'len' are its elements, the rest its spare room), each fitting its kind. -/
def IsRow (k : IntKind) (w : World) (a : Option Addr) (len cap : Nat) (zs : List Int) : Prop :=
  (a = none ∧ len = 0 ∧ cap = 0 ∧ zs = []) ∨
  ∃ x, a = some x ∧ len ≤ cap ∧ cap ≤ maxLen ∧ zs.length = cap ∧ (∀ i, i < zs.length → w.cell? (x.add i) = some (.int k (zs.getD i 0))) ∧ ∀ n ∈ zs, (Lit.int k n).wf = true

attribute [local go_sem ↓] Go.wp_at_zero Go.wp_at_succ
theorem u64_rng {a : Int} (h : (Lit.int .u64 a).wf = true) : 0 ≤ a ∧ a ≤ 18446744073709551615 := by
  simp [Lit.wf, IntKind.min, IntKind.max, IntKind.signed, IntKind.bits] at h
  omega
theorem row_of {w : World} {a : Option Addr} {len cap : Nat} {zs : List Int} (h : IsRow .u64 w a len cap zs) (hl : 0 < len) :
    ∃ b off f, a = some ⟨b, off, none⟩ ∧ Row w b off len f ∧ Nums f := by
  rcases h with ⟨_, rfl, _⟩ | ⟨x, rfl, hc, _, hz, hcell, hwf⟩
  · omega
  · obtain ⟨b, off, rfl, hcs⟩ := ints_at hcell (by omega)
    refine ⟨b, off, fun j => zs.getD j 0, rfl, fun j hj => hcs j (by omega), fun j => ?_⟩
    dsimp only
    by_cases hj : j < zs.length
    · have : zs.getD j 0 = zs[j] := by simp [List.getD, hj]
      rw [this]
      exact u64_rng (hwf _ (List.getElem_mem hj))
    · have : zs.getD j 0 = 0 := by simp [List.getD, hj]
      rw [this]; omega

theorem Nums_zero : Nums (fun _ => 0) := fun _ => by dsimp only; omega
theorem prow_of {w : World} {a : Option Addr} {len cap : Nat} {zs : List Int} (h : IsRow .u64 w a len cap zs) : ∃ g, PRow w a len g ∧ Nums g := by
  by_cases hl : 0 < len
  · obtain ⟨b, off, f, e, hr, hv⟩ := row_of h hl
    exact ⟨f, fun _ => ⟨b, off, e, hr⟩, hv⟩
  · exact ⟨fun _ => 0, fun h => absurd h hl, Nums_zero⟩
theorem len_max {w : World} {a : Option Addr} {len cap : Nat} {zs : List Int} (h : IsRow .u64 w a len cap zs) : len ≤ maxLen := by
  rcases h with ⟨_, rfl, _⟩ | ⟨_, _, h1, h2, _⟩
  · exact Nat.zero_le _
  · exact Nat.le_trans h1 h2
theorem i64_rng {a : Int} (h : (Lit.int .i64 a).wf = true) : -9223372036854775808 ≤ a ∧ a ≤ 9223372036854775807 := by
  simp [Lit.wf, IntKind.min, IntKind.max, IntKind.signed, IntKind.bits] at h
  omega
/-- What holds of the world all along. -/
structure St (w W : World) (ao : Option Addr) (la : Nat) (f : Nat → Int) (ap : Option Addr) (lp : Nat) (g : Nat → Int) : Prop where
  bel : Below w.heap.size w W
  t : Tab W
  pa : PRow W ao la f
  pp : PRow W ap lp g
theorem St.next {w W W' : World} {ao ap : Option Addr} {la lp : Nat} {f g : Nat → Int} (h : St w W ao la f ap lp g) (hb : Below W.heap.size W W') : St w W' ao la f ap lp g :=
  ⟨h.bel.trans (hb.mono h.bel.size), h.t.kept hb h.t.1, h.pa.kept hb, h.pp.kept hb⟩
theorem St.drew {w W : World} {ao ap : Option Addr} {la lp : Nat} {f g : Nat → Int} (h : St w W ao la f ap lp g) : St w W.drew ao la f ap lp g := ⟨h.bel.drew, h.t.drew, h.pa.drew, h.pp.drew⟩
theorem row_next {W W' : World} {b o n : Nat} {f : Nat → Int} (h : Row W b o n f) (hb : Below W.heap.size W W') : Row W' b o n f := fun j hj => (h.kept hb (h.lt (by omega))) j hj
theorem alloc_below (w : World) (x : Obj) : Below w.heap.size w (w.alloc x) := (Below.refl _ w).alloc (Nat.le_refl _) _

theorem and_all : ((List.range 16).all fun s => bits .and .i64 (s : Int) 1 == ((s % 2 : Nat) : Int)) = true := by kernel_rfl
theorem and_one (s : Nat) (h : s ≤ 15) : bits .and .i64 (s : Int) 1 = ((s % 2 : Nat) : Int) := by
  have := List.all_eq_true.1 and_all s (List.mem_range.2 (by omega))
  simpa using this
theorem Nums_bits (b n : Nat) : Nums (bitF b n) := fun j => by unfold bitF; omega
theorem bit_val (c r t q : Nat) (hc : c ≤ 15) (hq : q + t + 1 = r) : IntKind.u64.wrap (bits .and .i64 ((c : Int) / 2 ^ q) 1) = bitF c r t := by
  have h1 : (c : Int) / 2 ^ q = ((c / 2 ^ q : Nat) : Int) := by simp
  have h2 : c / 2 ^ q ≤ 15 := Nat.le_trans (Nat.div_le_self _ _) hc
  rw [h1, and_one _ h2, IntKind.wrap_u64]
  unfold bitF
  rw [show r - 1 - t = q from by omega]
  omega
theorem bit_step (c r t j : Nat) (y : Int) (hy : bitF c r t = y) : (if j = t then y else if j < t then bitF c r j else 0) = if j < t + 1 then bitF c r j else 0 := by
  by_cases e : j = t
  · subst e; rw [if_pos rfl, if_pos (by omega), hy]
  · rw [if_neg e]
    by_cases h : j < t
    · rw [if_pos h, if_pos (by omega)]
    · rw [if_neg h, if_neg (by omega)]
theorem corner_val (f : Nat → Int) (c r : Nat) (hc : c < 2 ^ r) : ofK (evS (fun j => kk (f j)) (fun j => kk (bitF c r j)) r) = nrm (f c) := by
  rw [evS_congr (f' := fun j => kk (f j)) (g' := bitK c r) r (fun _ _ => rfl) (fun j _ => kk_bitF c r j), evS_bit _ r c hc, nrm_ofK]

theorem tail_row {w : World} {B m : Nat} {g : Nat → Int} (h : Row w B 0 (m + 1) g) : Row w B 1 m (fun j => g (j + 1)) := fun j hj => by
  have := h (j + 1) (by omega)
  rw [show 0 + (j + 1) = 1 + j from by omega] at this
  exact this
theorem fix_val (f g : Nat → Int) (m H : Nat) (z v : Int) (hH : H = 2 ^ m) (hz : g 0 = z) (hv : ofK (evS (fun j => kk (f j)) (fun j => kk (g j)) (m + 1)) = v) : ofK (evS (fun j => kk (fldF f H z j)) (fun j => kk (g (j + 1))) m) = v := by
  rw [← hv, evS_fold]
  congr 1
  exact evS_congr m (fun b _ => by rw [kk_fldF, hH, hz]) (fun _ _ => rfl)
/-- What holds where the function that turns one number is called. -/
structure Cl (w W : World) (ao : Option Addr) (la : Nat) (f0 : Nat → Int) (ap : Option Addr) (lp : Nat) (g0 : Nat → Int) (BX BY BQ BT BZ n N i : Nat) (f g : Nat → Int) : Prop where
  st : St w W ao la f0 ap lp g0
  ct : W.cell? ⟨BX, 0, none⟩ = some (.slice (some ⟨BT, 0, none⟩) N N)
  cq : W.cell? ⟨BY, 0, none⟩ = some (.slice (some ⟨BQ, 0, none⟩) n n)
  ci : W.cell? ⟨BZ, 0, none⟩ = some (.int .i64 (i : Int))
  r : Row W BT 0 N f
  q : Row W BQ 0 n g
theorem Cl.next {w W W' : World} {ao ap : Option Addr} {la lp : Nat} {f0 g0 f g : Nat → Int} {BX BY BQ BT BZ n N i : Nat} (h : Cl w W ao la f0 ap lp g0 BX BY BQ BT BZ n N i f g) (hb : Below W.heap.size W W') : Cl w W' ao la f0 ap lp g0 BX BY BQ BT BZ n N i f g :=
  ⟨h.st.next hb, (hb.cell (p := ⟨BX, 0, none⟩) (World.block_lt_of_cell? W _ h.ct)).trans h.ct, (hb.cell (p := ⟨BY, 0, none⟩) (World.block_lt_of_cell? W _ h.cq)).trans h.cq, (hb.cell (p := ⟨BZ, 0, none⟩) (World.block_lt_of_cell? W _ h.ci)).trans h.ci, row_next h.r hb, row_next h.q hb⟩
theorem Cl.of {w W : World} {ao ap : Option Addr} {la lp : Nat} {f0 g0 f g : Nat → Int} {BX BY BQ BT n N : Nat} (i : Nat) (ty : TypeId) (h : St w W ao la f0 ap lp g0) (ct : W.cell? ⟨BX, 0, none⟩ = some (.slice (some ⟨BT, 0, none⟩) N N)) (cq : W.cell? ⟨BY, 0, none⟩ = some (.slice (some ⟨BQ, 0, none⟩) n n)) (r : Row W BT 0 N f) (q : Row W BQ 0 n g) :
    Cl w (W.alloc (.cells #[.int .i64 (i : Int)] ty)) ao la f0 ap lp g0 BX BY BQ BT W.heap.size n N i f g := by
  have hb := alloc_below W (.cells #[.int .i64 (i : Int)] ty)
  exact ⟨h.next hb, (hb.cell (p := ⟨BX, 0, none⟩) (World.block_lt_of_cell? W _ ct)).trans ct, (hb.cell (p := ⟨BY, 0, none⟩) (World.block_lt_of_cell? W _ cq)).trans cq, by rw [World.cell?_alloc_new]; rfl, row_next r hb, row_next q hb⟩

set_option maxHeartbeats 8000000 in
set_option maxRecDepth 100000 in
theorem walk_all (ao ap : Option Addr) (la ca lp cp r N c : Nat) (f0 g0 : Nat → Int) (k b x : Int) (w : World) (k0 : -9223372036854775808 ≤ k) (k1 : k ≤ 9223372036854775807) (b0 : -9223372036854775808 ≤ b) (b1 : b ≤ 9223372036854775807) (x0 : 0 ≤ x) (x1 : x ≤ 18446744073709551615) (hr : k % 5 = (r : Int)) (hN : N = 2 ^ r) (hc : b % (N : Int) = (c : Int)) (hs : St w w ao la f0 ap lp g0) (hf0 : Nums f0) (hg0 : Nums g0) :
    Calls Tryd.prog 3 #[.slice ao la ca, .slice ap lp cp, .int .i64 k, .int .i64 b, .int .u64 x] w fun e w' => e = .returned (.bool true) ∧ Below w.heap.size w w' := by
  have hr4 : r ≤ 4 := by omega
  have hN2 : N ≤ 16 := by rw [hN]; exact Nat.pow_le_pow_right (j := 4) (by omega) hr4
  have hN1 : 1 ≤ N := by rw [hN]; exact Nat.one_le_two_pow
  have hcN : c < N := by have := Int.emod_lt_of_pos b (b := (N : Int)) (by omega); omega
  have HRR := hid hr
  have HN := hid hN
  have HS := hid hs
  have HF := hid (Nums_pad hf0 la)
  have HG := hid (Nums_pad hg0 lp)
  have HRE := hid (fun w => rest_any b (N : Int) w b0 b1 (by omega) (by omega))
  rw [hc] at HRE
  clear hr hN hs hf0 hg0 hc
  go_enter Tryd.func3, Tryd.ntmps3
  go_wp2_with fail
  refine (between_ok w HS.out.t).mono ?_
  rintro e w1 ⟨rfl, hb⟩
  have HS1 := hid (HS.out.next hb)
  clear hb HS
  go_wp2_with fail
  refine (table_any ao la ca k r N f0 _ k0 k1 HRR.out HN.out HS1.out.pa).mono ?_
  rintro e w2 ⟨rfl, hm⟩
  have HS2 := hid (HS1.out.next hm.below)
  have HT2 := hid hm.row
  clear hm HS1
  obtain ⟨BT, hBT⟩ : ∃ BT, w1.heap.size = BT := ⟨_, rfl⟩
  rw [hBT] at HT2 ⊢
  clear hBT
  go_wp2_with fail
  have hA := alloc_below w2 (.cells #[.slice (some ⟨BT, 0, none⟩) N N] 22)
  have HS3 := hid (HS2.out.next hA)
  have HT3 := hid (row_next HT2.out hA)
  have ct : (w2.alloc (.cells #[.slice (some ⟨BT, 0, none⟩) N N] 22)).cell? ⟨w2.heap.size, 0, none⟩ = some (.slice (some ⟨BT, 0, none⟩) N N) := by rw [World.cell?_alloc_new]; rfl
  clear hA HS2 HT2
  obtain ⟨BX, hBX⟩ : ∃ BX, w2.heap.size = BX := ⟨_, rfl⟩
  generalize w2.alloc (.cells #[.slice (some ⟨BT, 0, none⟩) N N] 22) = w3 at HS3 HT3 ct ⊢
  rw [hBX] at ct ⊢
  clear hBX
  obtain ⟨f, hf⟩ : ∃ f, padF la f0 = f := ⟨_, rfl⟩
  obtain ⟨g, hg⟩ : ∃ g, padF lp g0 = g := ⟨_, rfl⟩
  rw [hf] at HF HT3
  rw [hg] at HG
  have HGG := hid hg
  clear hf hg
  have hmk := run_make_row' (P := Tryd.prog) 22 23 (.int .u64 0) 8 Tryd.underlying22 Tryd.infoO rfl .i64 .i64 r (by omega) (by omega)
  go_wp2_with (first | (go_at_call 8; refine (rvars_ok _ r N N _ (by omega) HN.out).mono ?_; rintro e w' ⟨rfl, hw⟩; obtain rfl := hw.symm) | (go_at_call 9; refine (HRE.out _).mono ?_; rintro e w' ⟨rfl, hw⟩; obtain rfl := hw.symm))
  clear hmk HRE
  go_loopg [42] r (fun q i wr => ∃ t : Nat, t ≤ r ∧ q = r - t ∧ i = .int .i64 (t : Int) ∧ Hid (Made w3 wr r (fun j => if j < t then bitF c r j else 0)))
  case atStart => exact ⟨0, by omega, rfl, rfl, hid ((Made.start w3 r 23).congr fun j _ => by rw [if_neg (by omega)])⟩
  case round =>
    obtain ⟨t, htr, rfl, rfl, HM⟩ := hrel
    by_cases hlt : t < r
    · obtain ⟨q, hq⟩ : ∃ q : Nat, q + t + 1 = r := ⟨r - 1 - t, by omega⟩
      have hbv := bit_val c r t q (by omega) hq
      have hq2 : (r : Int) - 1 - (t : Int) = (q : Int) := by omega
      have hmin : min q 64 = q := Nat.min_eq_left (by omega)
      have q0 : (0 : Int) ≤ (q : Int) := by omega
      have c0 : (0 : Int) ≤ (c : Int) := by omega
      have c3 := HM.out.cell t hlt
      have f3 := HM.out.frozen t hlt
      rw [if_neg (by omega)] at c3
      have t0 : (0 : Int) ≤ (t : Int) := by omega
      have t1 : (t : Int) < (r : Int) := by omega
      obtain ⟨y, hy⟩ : ∃ y, bitF c r t = y := ⟨_, rfl⟩
      rw [hy] at hbv
      have HY := hid hy
      clear hy
      go_wp2_with fail
      go_roundg (r - (t + 1))
      case measure => go_light; omega
      case rel => exact ⟨t + 1, by omega, rfl, by go_num, hid ((HM.out.store t _ hlt).congr fun j _ => bit_step c r t j y HY.out)⟩
    · have e : t = r := by omega
      subst e
      have HS4 := hid (HS3.out.next HM.out.below)
      have HT4 := hid (row_next HT3.out HM.out.below)
      have ct4 := (HM.out.below.cell (p := ⟨BX, 0, none⟩) (World.block_lt_of_cell? w3 _ ct)).trans ct
      have HBI := hid (HM.out.row.congr (g := bitF c t) fun j hj => if_pos hj)
      obtain ⟨BB, hBB⟩ : ∃ BB, w3.heap.size = BB := ⟨_, rfl⟩
      rw [hBB] at HBI ⊢
      clear hBB HS3 HT3 ct HM
      go_wp2_with fail
      have he := eval_ok BT 0 t N N t (some ⟨BB, 0, none⟩) f (bitF c t) wr (by omega) HN.out HS4.out.t HT4.out HF.out (PRow.of HBI.out) (Nums_bits c t)
      rw [corner_val f c t (by rw [← HN.out]; exact hcN)] at he
      obtain ⟨y, hy⟩ : ∃ y, f c = y := ⟨_, rfl⟩
      have by1 := HF.out c
      have cy := HT4.out c hcN
      rw [Nat.zero_add] at cy
      rw [hy] at he by1 cy
      obtain ⟨y0, y1⟩ := by1
      refine he.mono ?_
      rintro e w4 ⟨rfl, hb⟩
      have HS5 := hid (HS4.out.next hb)
      have HT5 := hid (row_next HT4.out hb)
      have ct5 := (hb.cell (p := ⟨BX, 0, none⟩) (World.block_lt_of_cell? wr _ ct4)).trans ct4
      have cy5 := (hb.cell (p := ⟨BT, c, none⟩) (World.block_lt_of_cell? wr _ cy)).trans cy
      clear hb he hy HS4 HT4 HBI ct4 cy
      have cc0 : (0 : Int) ≤ (c : Int) := by omega
      have cc1 : (c : Int) < (N : Int) := by omega
      go_wp2_with (go_at_call 11; refine (norm_any _ _ (by omega) (by omega)).mono ?_; rintro e w' ⟨rfl, hw⟩; obtain rfl := hw.symm)
      refine (point_any ap lp cp t g0 _ (by omega) HS5.out.pp).mono ?_
      rintro e w5 ⟨rfl, hm⟩
      rw [HGG.out] at hm
      have HS6 := hid (HS5.out.next hm.below)
      have HT6 := hid (row_next HT5.out hm.below)
      have ct6 := (hm.below.cell (p := ⟨BX, 0, none⟩) (World.block_lt_of_cell? w4 _ ct5)).trans ct5
      have HQ6 := hid hm.row
      obtain ⟨BQ, hBQ⟩ : ∃ BQ, w4.heap.size = BQ := ⟨_, rfl⟩
      rw [hBQ] at HQ6 ⊢
      clear hm hBQ HS5 HT5 ct5 cy5
      have hA := alloc_below w5 (.cells #[.slice (some ⟨BQ, 0, none⟩) t t] 22)
      have HS7 := hid (HS6.out.next hA)
      have HT7 := hid (row_next HT6.out hA)
      have HQ7 := hid (row_next HQ6.out hA)
      have ct7 := (hA.cell (p := ⟨BX, 0, none⟩) (World.block_lt_of_cell? w5 _ ct6)).trans ct6
      have cq7 : (w5.alloc (.cells #[.slice (some ⟨BQ, 0, none⟩) t t] 22)).cell? ⟨w5.heap.size, 0, none⟩ = some (.slice (some ⟨BQ, 0, none⟩) t t) := by rw [World.cell?_alloc_new]; rfl
      clear hA HS6 HT6 HQ6 ct6
      go_wp2_with fail
      obtain ⟨BY, hBY⟩ : ∃ BY, w5.heap.size = BY := ⟨_, rfl⟩
      generalize w5.alloc (.cells #[.slice (some ⟨BQ, 0, none⟩) t t] 22) = w7 at HS7 HT7 HQ7 ct7 cq7 ⊢
      rw [hBY] at cq7 ⊢
      clear hBY
      have he := eval_ok BT 0 t N N t (some ⟨BQ, 0, none⟩) f g w7 (by omega) HN.out HS7.out.t HT7.out HF.out (PRow.of HQ7.out) HG.out
      obtain ⟨v, hv⟩ : ∃ v, ofK (evS (fun j => kk (f j)) (fun j => kk (g j)) t) = v := ⟨_, rfl⟩
      rw [hv] at he
      have HVV := hid hv
      refine he.mono ?_
      rintro e w8 ⟨rfl, hb⟩
      have HS8 := hid (HS7.out.next hb)
      have HT8 := hid (row_next HT7.out hb)
      have HQ8 := hid (row_next HQ7.out hb)
      have ct8 := (hb.cell (p := ⟨BX, 0, none⟩) (World.block_lt_of_cell? w7 _ ct7)).trans ct7
      have cq8 := (hb.cell (p := ⟨BY, 0, none⟩) (World.block_lt_of_cell? w7 _ cq7)).trans cq7
      clear hb he hv HS7 HT7 HQ7 ct7 cq7
      by_cases hz : t = 0
      · subst hz
        have hev : v = nrm (f 0) := by rw [← HVV.out, evS_zero, nrm_ofK]
        have cy := HT8.out 0 (by omega)
        have by1 := HF.out 0
        obtain ⟨y', hy'⟩ : ∃ y, f 0 = y := ⟨_, rfl⟩
        rw [hy'] at hev cy by1
        rw [Nat.add_zero] at cy
        obtain ⟨y0', y1'⟩ := by1
        subst hev
        clear hy'
        have n0 : (0 : Int) < (N : Int) := by omega
        go_wp2_with (go_at_call 11; refine (norm_any _ _ (by omega) (by omega)).mono ?_; rintro e w' ⟨rfl, hw⟩; obtain rfl := hw.symm)
        go_ret
        exact ⟨rfl, HS8.out.bel⟩
      · obtain ⟨m, rfl⟩ : ∃ m, t = m + 1 := ⟨t - 1, by omega⟩
        obtain ⟨H, hh⟩ : ∃ H, H = 2 ^ m := ⟨_, rfl⟩
        obtain rfl : N = 2 * H := by rw [HN.out, Nat.pow_succ, hh, Nat.mul_comm]
        have HH := hid hh
        have hh1 : 1 ≤ H := by omega
        have hh2 : H ≤ 8 := by omega
        have cg := HQ8.out 0 (by omega)
        rw [Nat.add_zero] at cg
        obtain ⟨z, hzg⟩ : ∃ z, g 0 = z := ⟨_, rfl⟩
        have bz := HG.out 0
        rw [hzg] at cg bz
        obtain ⟨z0, z1⟩ := bz
        have HFX := hid (fun W (h1 : Tab W) h2 => fix_ok BT 0 m H (2 * H) f z W (by omega) HH.out h1 h2 HF.out z0 z1)
        have hev2 := fun (ao' : Option Addr) (BF : Nat) (W : World) (c' : Nat) (h1 : Tab W) (h2 : Row W BF 0 H (fldF f H z)) h3 => eval_ok BF 0 m H H c' ao' (fldF f H z) (fun j => g (j + 1)) W (by omega) HH.out h1 h2 (Nums_fld f H z) h3 (fun j => HG.out (j + 1))
        rw [fix_val f g m H z v HH.out hzg HVV.out] at hev2
        have HEV2 := hid hev2
        obtain ⟨i, hi⟩ : ∃ i : Nat, b % ((m : Int) + 1) = (i : Int) := ⟨(b % ((m : Int) + 1)).toNat, by have := Int.emod_nonneg b (b := (m : Int) + 1) (by omega); omega⟩
        have him : i < m + 1 := by have := Int.emod_lt_of_pos b (b := (m : Int) + 1) (by omega); omega
        have hre := fun w => rest_any b ((m : Int) + 1) w b0 b1 (by omega) (by omega)
        rw [hi] at hre
        obtain ⟨V, hV, hVr⟩ : ∃ V : Int → Int, (∀ x', V x' = ofK (evS (fun j => kk (f j)) (updK (fun j => kk (g j)) i (kk x')) (m + 1))) ∧ ∀ x', 0 ≤ V x' ∧ V x' ≤ 2305843009213693950 := ⟨fun x' => _, fun _ => rfl, fun _ => ofK_rng _⟩
        have hline : addQ (V 0) (mulQ x (subQ (V 1) (V 0))) = V x := by
          rw [hV, hV, hV, addQ_ofK, kk_ofK, kk_mulQ, kk_subQ, kk_ofK, kk_ofK, evS_line _ _ (m + 1) i (kk x) him, kk_zero, kk_one]
        have htu := fun x' W (h0 : 0 ≤ x') (h1 : x' ≤ 18446744073709551615) (BZ : Nat) (hC : Cl w W ao la f0 ap lp g0 BX BY BQ BT BZ (m + 1) (2 * H) i f g) => turned_any BY BZ BX BQ BT (m + 1) (2 * H) i f g x' W (by omega) (by omega) HN.out him hC.st.t hC.cq hC.ci hC.ct hC.r HF.out hC.q HG.out h0 h1
        simp only [← hV] at htu
        have HTU := hid htu
        obtain ⟨v00, v01⟩ := hVr 0
        obtain ⟨v10, v11⟩ := hVr 1
        obtain ⟨vx0, vx1⟩ := hVr x
        obtain ⟨sv0, sv1⟩ := subQ_rng (V 1) (V 0)
        obtain ⟨mv0, mv1⟩ := mulQ_rng x (subQ (V 1) (V 0))
        clear hh hzg hev2 hV hVr htu
        obtain hm0 | hm0 : m = 0 ∨ 1 ≤ m := by omega
        · subst hm0
          obtain rfl : i = 0 := by omega
          have HRE2 : Hid (∀ w, Calls Tryd.prog 9 #[.int .i64 b, .int .i64 1] w fun e w' => e = .returned (.int .i64 0) ∧ w' = w) := hid hre
          clear hre hi
          go_wp2_with fail
          go_region_with (first | (go_at_call 13; refine (HFX.out _ (by exact HS8.out.t) (by exact HT8.out)).mono ?_; rintro e w9 ⟨rfl, hm⟩; have HM9 : Hid (Made w8 w9 H (fldF f H z)) := hid (by first | exact hm | exact ⟨(Below.refl _ w8).drew.trans hm.below, hm.row, hm.free⟩); clear hm))
          all_goals (
            have HS9 := hid (HS8.out.next HM9.out.below)
            have HT9 := hid (row_next HT8.out HM9.out.below)
            have HQ9 := hid (row_next HQ8.out HM9.out.below)
            have ct9 := (HM9.out.below.cell (p := ⟨BX, 0, none⟩) (World.block_lt_of_cell? w8 _ ct8)).trans ct8
            have cq9 := (HM9.out.below.cell (p := ⟨BY, 0, none⟩) (World.block_lt_of_cell? w8 _ cq8)).trans cq8
            have HF9 := hid HM9.out.row
            obtain ⟨BF, hBF⟩ : ∃ BF, w8.heap.size = BF := ⟨_, rfl⟩
            rw [hBF] at HF9 ⊢
            clear hBF HM9 HS8 HT8 HQ8 ct8 cq8 cg HFX
            go_wp2_with fail
            refine (HEV2.out _ BF _ _ HS9.out.t HF9.out (fun h0 => absurd h0 (by omega))).mono ?_
            rintro e w10 ⟨rfl, hb⟩
            have HS10 := hid (HS9.out.next hb)
            have HT10 := hid (row_next HT9.out hb)
            have HQ10 := hid (row_next HQ9.out hb)
            have ct10 := (hb.cell (p := ⟨BX, 0, none⟩) (World.block_lt_of_cell? w9 _ ct9)).trans ct9
            have cq10 := (hb.cell (p := ⟨BY, 0, none⟩) (World.block_lt_of_cell? w9 _ cq9)).trans cq9
            clear hb HS9 HT9 HQ9 ct9 cq9 HF9
            go_wp2_with fail
            refine (HRE2.out _).mono ?_
            rintro e w' ⟨rfl, hw⟩
            obtain rfl := hw.symm
            have HCL := hid (Cl.of 0 3 HS10.out ct10 cq10 HT10.out HQ10.out)
            clear HS10 HT10 HQ10 ct10 cq10
            go_wp2_with (first
              | (go_at_call 14; refine (HTU.out _ _ (by omega) (by omega) _ (by exact HCL.out)).mono ?_; rintro e wz ⟨rfl, hb⟩; replace HCL := hid (HCL.out.next hb); clear hb)
              | (go_at_call 18; refine (sub_any _ _ _ (by omega) (by omega) (by omega) (by omega)).mono ?_; rintro e w' ⟨rfl, hw⟩; obtain rfl := hw.symm)
              | (go_at_call 17; refine (mul_any _ _ _ (by omega) (by omega) (by omega) (by omega)).mono ?_; rintro e w' ⟨rfl, hw⟩; obtain rfl := hw.symm)
              | (go_at_call 16; refine (add_any _ _ _ (by omega) (by omega) (by omega) (by omega)).mono ?_; rintro e w' ⟨rfl, hw⟩; obtain rfl := hw.symm))
            go_ret
            exact ⟨rfl, HCL.out.st.bel⟩)
        · have HRE2 := hid hre
          have hm2 : ¬ m = 0 := by omega
          have hm3 : ¬ m + 1 = 1 := by omega
          clear hre hi
          go_wp2_with fail
          go_region_with (first | (go_at_call 13; refine (HFX.out _ (by exact HS8.out.t) (by exact HT8.out)).mono ?_; rintro e w9 ⟨rfl, hm⟩; have HM9 : Hid (Made w8 w9 H (fldF f H z)) := hid (by first | exact hm | exact ⟨(Below.refl _ w8).drew.trans hm.below, hm.row, hm.free⟩); clear hm))
          all_goals (
            have HS9 := hid (HS8.out.next HM9.out.below)
            have HT9 := hid (row_next HT8.out HM9.out.below)
            have HQ9 := hid (row_next HQ8.out HM9.out.below)
            have ct9 := (HM9.out.below.cell (p := ⟨BX, 0, none⟩) (World.block_lt_of_cell? w8 _ ct8)).trans ct8
            have cq9 := (HM9.out.below.cell (p := ⟨BY, 0, none⟩) (World.block_lt_of_cell? w8 _ cq8)).trans cq8
            have HF9 := hid HM9.out.row
            obtain ⟨BF, hBF⟩ : ∃ BF, w8.heap.size = BF := ⟨_, rfl⟩
            rw [hBF] at HF9 ⊢
            clear hBF HM9 HS8 HT8 HQ8 ct8 cq8 cg HFX
            go_wp2_with fail
            refine (HEV2.out _ BF _ _ HS9.out.t HF9.out (PRow.of (tail_row HQ9.out))).mono ?_
            rintro e w10 ⟨rfl, hb⟩
            have HS10 := hid (HS9.out.next hb)
            have HT10 := hid (row_next HT9.out hb)
            have HQ10 := hid (row_next HQ9.out hb)
            have ct10 := (hb.cell (p := ⟨BX, 0, none⟩) (World.block_lt_of_cell? w9 _ ct9)).trans ct9
            have cq10 := (hb.cell (p := ⟨BY, 0, none⟩) (World.block_lt_of_cell? w9 _ cq9)).trans cq9
            clear hb HS9 HT9 HQ9 ct9 cq9 HF9
            go_wp2_with fail
            refine (HRE2.out _).mono ?_
            rintro e w' ⟨rfl, hw⟩
            obtain rfl := hw.symm
            have HCL := hid (Cl.of i 3 HS10.out ct10 cq10 HT10.out HQ10.out)
            clear HS10 HT10 HQ10 ct10 cq10
            go_wp2_with (first
              | (go_at_call 14; refine (HTU.out _ _ (by omega) (by omega) _ (by exact HCL.out)).mono ?_; rintro e wz ⟨rfl, hb⟩; replace HCL := hid (HCL.out.next hb); clear hb)
              | (go_at_call 18; refine (sub_any _ _ _ (by omega) (by omega) (by omega) (by omega)).mono ?_; rintro e w' ⟨rfl, hw⟩; obtain rfl := hw.symm)
              | (go_at_call 17; refine (mul_any _ _ _ (by omega) (by omega) (by omega) (by omega)).mono ?_; rintro e w' ⟨rfl, hw⟩; obtain rfl := hw.symm)
              | (go_at_call 16; refine (add_any _ _ _ (by omega) (by omega) (by omega) (by omega)).mono ?_; rintro e w' ⟨rfl, hw⟩; obtain rfl := hw.symm))
            go_ret
            exact ⟨rfl, HCL.out.st.bel⟩)

/-- What the row lists. -/
def laidT : List (String × DataW Unit) := [("math/bits.deBruijn32tab", Rows.laid_math_bits_deBruijn32tab), ("math/bits.deBruijn64tab", Rows.laid_math_bits_deBruijn64tab)]
theorem door_met (os : Os) (args : Array Value) : laidMetH Tryd.prog laidT ((World.laidAll Tryd.prog os laidT).forCall (fun _ _ => 0) ⟨#[], args, []⟩).memory := by
  rw [MakeChecks.laidMetH_plain _ _ _ (by kernel_rfl)]
  exact laidMet_laidAll _ (by kernel_rfl) (by kernel_rfl)
theorem tab_of_laid {W : World} (h : laidMetH Tryd.prog laidT W) : Tab W := by
  rw [MakeChecks.laidMetH_plain _ _ _ (by kernel_rfl)] at h
  obtain ⟨ps, hv, _⟩ := h
  exact tab_of_vars hv

set_option maxHeartbeats 4000000 in
set_option maxRecDepth 100000 in
theorem walk (a0 : Option Addr) (len0 cap0 : Nat) (z0 : List Int) (a1 : Option Addr) (len1 cap1 : Nat) (z1 : List Int) (a2 : Int) (a3 : Int) (a4 : Int) (w : World) (w0 : IsRow .u64 w a0 len0 cap0 z0) (w1 : IsRow .u64 w a1 len1 cap1 z1) (w2 : (Lit.int .i64 a2).wf = true) (w3 : (Lit.int .i64 a3).wf = true) (w4 : (Lit.int .u64 a4).wf = true) (ht : Tab w) :
    Calls Tryd.prog 3 #[.slice a0 len0 cap0, .slice a1 len1 cap1, .int .i64 a2, .int .i64 a3, .int .u64 a4] w fun e w' => e = .returned (.bool true) ∧ Below w.heap.size w w' := by
  obtain ⟨k0, k1⟩ := i64_rng w2
  obtain ⟨b0, b1⟩ := i64_rng w3
  obtain ⟨x0, x1⟩ := u64_rng w4
  obtain ⟨f, hp, hf⟩ := prow_of w0
  obtain ⟨g, hq, hg⟩ := prow_of w1
  have hN1 : 1 ≤ 2 ^ (a2 % 5).toNat := Nat.one_le_two_pow
  have hc := Int.emod_nonneg a3 (b := ((2 ^ (a2 % 5).toNat : Nat) : Int)) (by omega)
  exact walk_all a0 a1 len0 cap0 len1 cap1 (a2 % 5).toNat _ (a3 % ((2 ^ (a2 % 5).toNat : Nat) : Int)).toNat f g a2 a3 a4 w k0 k1 b0 b1 x0 x1 (by omega) rfl (by omega) ⟨Below.refl _ _, ht, hp, hq⟩ hf hg

set_option maxRecDepth 100000 in
theorem lifted (os : Os) (started : os.Started) (H : Type) (enc : TypeId × Value → H) :
    ReturnsInHanded {} Tryd.checked os 3 .any (fun w args => (Rows.mleCornersSpec.pre enc Tryd.prog Tryd.f3 [] false w args ∧ laidMetH Tryd.prog laidT w) ∧ sizedMet enc Tryd.prog Tryd.f3 (OpenSpec.ofChange Rows.mleCornersSpec) false w args) (Rows.mleCornersSpec.post enc Tryd.prog Tryd.f3 false true false false) := by
  refine wrap_and_shaped (C := Tryd.checked) (X := fun w _ => laidMetH Tryd.prog laidT w) (fun _ _ _ hh h => h.of_heap hh) own started (by kernel_rfl) Tryd.func3
    (ChangeSpec.witness_shaped (enc := enc) (C := Tryd.checked) (os := os) (X := fun w _ => laidMetH Tryd.prog laidT w) false (World.laidAll Tryd.prog os laidT) #[.slice none 0 0, .slice none 0 0, .int .i64 0, .int .i64 0, .int .u64 0] 8 (World.laidAll_os _ _ _) (World.shaped_of_ZipB (by kernel_rfl) (by kernel_rfl)) (by kernel_rfl) (by kernel_rfl) (by kernel_rfl) (door_met os _)) ?_
  intro W base args ds gs before hval0 hW _ _ hL hsh _
  have hval : ∀ (j : Nat) t v, Tryd.f3.params[j]? = some t → args[j]? = some v → Value.okWide Tryd.prog W .any base t v := hval0
  have hW' := hW
  obtain ⟨p, q, hA0, hV, rfl, hfz, hnd⟩ := hW
  have hA : DataW.TrodAll enc Tryd.prog W 0 (fun _ => true) true Tryd.f3.params.toList args.toList ds p := hA0
  rw [Tryd.params3] at hA hval
  obtain ⟨v0, vs0, d0, ds0, p0, q0, hargs, rfl, rfl, h0, r0⟩ := trodAll_cons hA
  obtain ⟨v1, vs1, d1, ds1, p1, q1, rfl, rfl, rfl, h1, r1⟩ := trodAll_cons r0
  obtain ⟨v2, vs2, d2, ds2, p2, q2, rfl, rfl, rfl, h2, r2⟩ := trodAll_cons r1
  obtain ⟨v3, vs3, d3, ds3, p3, q3, rfl, rfl, rfl, h3, r3⟩ := trodAll_cons r2
  obtain ⟨v4, vs4, d4, ds4, p4, q4, rfl, rfl, rfl, h4, r4⟩ := trodAll_cons r3
  obtain ⟨rfl, rfl, rfl⟩ := trodAll_nil r4
  obtain rfl : args = #[v0, v1, v2, v3, v4] := by cases args; simp_all
  obtain ⟨rfl, rfl⟩ := trodVars_none hV
  obtain ⟨a0, len0, cap0, rfl⟩ := okWide_slice Tryd.underlying22 (hval 0 22 v0 rfl rfl)
  have k0 := h0
  have lt0 : ∀ x ∈ p0, x.block < W.heap.size := by obtain ⟨m, hm⟩ := k0; exact DataW.trod_lt m _ _ _ hm
  obtain ⟨z0, w0⟩ : ∃ zs, IsRow .u64 W a0 len0 cap0 zs := by
    obtain ⟨fuel, hf⟩ := h0
    rcases open_ints Tryd.underlying22 Tryd.underlying23 (by kernel_rfl) hf with ⟨hcs, _⟩ | ⟨x, l, c, zs, hcs, _, hl, hm, hz, _, hcell, hwz⟩
    · simp [Value.cells] at hcs
      obtain ⟨rfl, rfl, rfl⟩ := hcs
      exact ⟨[], .inl ⟨rfl, rfl, rfl, rfl⟩⟩
    · simp [Value.cells] at hcs
      obtain ⟨rfl, rfl, rfl⟩ := hcs
      exact ⟨zs, .inr ⟨_, rfl, hl, hm, by simpa using hz, hcell, hwz⟩⟩
  obtain ⟨a1, len1, cap1, rfl⟩ := okWide_slice Tryd.underlying22 (hval 1 22 v1 rfl rfl)
  have k1 := h1
  have lt1 : ∀ x ∈ p1, x.block < W.heap.size := by obtain ⟨m, hm⟩ := k1; exact DataW.trod_lt m _ _ _ hm
  obtain ⟨z1, w1⟩ : ∃ zs, IsRow .u64 W a1 len1 cap1 zs := by
    obtain ⟨fuel, hf⟩ := h1
    rcases open_ints Tryd.underlying22 Tryd.underlying23 (by kernel_rfl) hf with ⟨hcs, _⟩ | ⟨x, l, c, zs, hcs, _, hl, hm, hz, _, hcell, hwz⟩
    · simp [Value.cells] at hcs
      obtain ⟨rfl, rfl, rfl⟩ := hcs
      exact ⟨[], .inl ⟨rfl, rfl, rfl, rfl⟩⟩
    · simp [Value.cells] at hcs
      obtain ⟨rfl, rfl, rfl⟩ := hcs
      exact ⟨zs, .inr ⟨_, rfl, hl, hm, by simpa using hz, hcell, hwz⟩⟩
  obtain ⟨a2, rfl, rfl, rfl, w2⟩ := open_int Tryd.underlying3 (hval 2 3 v2 rfl rfl) h2
  obtain ⟨a3, rfl, rfl, rfl, w3⟩ := open_int Tryd.underlying3 (hval 3 3 v3 rfl rfl) h3
  obtain ⟨a4, rfl, rfl, rfl, w4⟩ := open_int Tryd.underlying23 (hval 4 23 v4 rfl rfl) h4
  clear hA0 hval0
  refine (walk a0 len0 cap0 z0 a1 len1 cap1 z1 a2 a3 a4 W w0 w1 w2 w3 w4 (tab_of_laid hL)).mono fun e W' ⟨he, bel⟩ => ?_
  subst he
  exact ⟨_, rfl, _, _, _, [], _, [], hW', trodAll_mk1 (shut_bool Tryd.underlying4 _), (trodAll_cons_mk (Below.trod laidOut (by kernel_rfl) (of_decide_eq_true (by kernel_rfl)) k0 bel lt0) (trodAll_cons_mk (Below.trod laidOut (by kernel_rfl) (of_decide_eq_true (by kernel_rfl)) k1 bel lt1) (trodAll_cons_mk (shut_int Tryd.underlying3 w2) (trodAll_cons_mk (shut_int Tryd.underlying3 w3) (trodAll_cons_mk (shut_int Tryd.underlying23 w4) trodAll_mk0))))), rfl, bel.frame _, fun h => by cases h⟩

theorem over : Rows.mleCornersRow.holds Tryd.pinned (OpenSpec.ofChange Rows.mleCornersSpec) :=
  OpenClaim.holds_of_wide 3 Tryd.f3 rfl rfl rfl rfl rfl rfl rfl ⟨rfl, rfl, rfl, rfl, rfl⟩ rfl rfl rfl rfl rfl (by kernel_rfl) Tryd.func3 (by kernel_rfl)
    (of_decide_eq_true (by kernel_rfl)) (by unfold Func.isWrapper; first | (rw [if_pos (by decide +kernel)]; kernel_rfl) | (rw [if_neg (by decide +kernel)]; exact ⟨rfl, rfl⟩))
    (fun os started H enc _ => lifted os started H enc)

/-- ████ THE STATEMENT ████ -/
theorem proved : Rows.MleCornersSaid := over
end Go.Proofs.YtoogpkcpheannadDoor.mleCorners

namespace Go.Proofs.YtoogpkcpheannadDoor
/-- The given statement: the row's, tied to the program's text. -/
theorem mleCorners_holds : Rows.MleCornersCardSaid :=
  Claim7.holds_tied_plain_at .later [] [.data, .data] true (true, "8280cba51574707be41f3ada8b67706cbb80bfa1525eaf47f61542222f0abf29") false
    mleCorners.proved (fun _ h => by cases h) (by kernel_rfl) (fun _ h => by cases h) mleCorners_row_tie rfl ⟨rfl, rfl⟩ (by kernel_rfl) rfl
    (fun f fn hf hfn => by
      obtain rfl : f = 3 := Option.some.inj ((show Tryd.prog.funcNamed "tallystick/tallykeep.MleCorners" = some 3 by kernel_rfl).symm.trans hf) |>.symm
      obtain rfl : fn = Tryd.f3 := (Option.some.inj (Tryd.func3.symm.trans hfn)).symm
      exact ⟨by kernel_rfl, fun j t ht => by
        rw [Tryd.params3] at ht
        have hm : t ∈ [22, 22, 3, 3, 23] := by simpa using Array.mem_of_getElem? ht
        have hall : ([22, 22, 3, 3, 23].all fun u => !Tryd.prog.wantsStandIn u) = true := by kernel_rfl
        exact (show Tryd.prog.wantsStandIn t = false by simpa using List.all_eq_true.1 hall t hm)⟩)
    (by kernel_rfl)
end Go.Proofs.YtoogpkcpheannadDoor
