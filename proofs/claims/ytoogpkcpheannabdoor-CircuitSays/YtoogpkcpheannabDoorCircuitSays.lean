/-
  Whatever circuit and whatever list of inputs of numbers of 64 bits are handed in, the law CircuitSays answers true and writes nothing that was there: Check, Run and Print of package circuit answer what the document's own answer (package tallyref) says; no condition; tied to the program's text: the three tables that the row lists hold what the library lays (none of them is read on the way).
-/
import Derived.Test.YtoogpkcpheannabDoorRows
import Derived.Test.YtoogpkcpheannabDoorCircOpen
import Derived.Test.YtoogpkcpheannabDoorCards
import Derived.Test.YtoogpkcpheannabDoorTie
import Derived.Test.YtoogpkcpheannabDoorWrap
import Derived.SevenTiedAt
import Derived.WalkKit
import Derived.Test.YtoogpkcpheannabDoorCome
import Derived.Test.YtoogpkcpheannabDoorRefC2
import Derived.Test.YtoogpkcpheannabDoorRefVal
import Derived.Test.YtoogpkcpheannabDoorRefCT
import Derived.Test.YtoogpkcpheannabDoorCircR2
import Derived.Test.YtoogpkcpheannabDoorCircP
import Derived.Test.YtoogpkcpheannabDoorEqualL
import Derived.Test.YtoogpkcpheannabDoorOwnW
import Derived.Deep.AppendLies
import Derived.ProofKit
import Derived.OpenShut
import Derived.ShutString
import Derived.ChangeOld
import Derived.Below
namespace Go.Proofs.YtoogpkcpheannabDoor.circuitSays
open Go.ChangeShapes Go.WideShapes Go.ChangeAt Go.RowKit
open Go.ChangeMaps (open_string shut_string)
set_option linter.unusedVariables false

theorem own : ownKnob Tryd.prog.godebug = none := by kernel_rfl
theorem laidOut : laidOutB Tryd.prog = true := by kernel_rfl

/-- WHAT THE WALK IS TOLD OF A SLICE OF INTEGERS THAT CAME IN: it is nil; or it leads to a row of 'cap' cells, the numbers 'zs' (the first 'len' are its elements, the rest its spare room), each fitting its kind. -/
def IsRow (k : IntKind) (w : World) (a : Option Addr) (len cap : Nat) (zs : List Int) : Prop :=
  (a = none ∧ len = 0 ∧ cap = 0 ∧ zs = []) ∨
  ∃ x, a = some x ∧ len ≤ cap ∧ cap ≤ maxLen ∧ zs.length = cap ∧ (∀ i, i < zs.length → w.cell? (x.add i) = some (.int k (zs.getD i 0))) ∧ ∀ n ∈ zs, (Lit.int k n).wf = true

attribute [local go_sem ↓] Go.wp_at_zero Go.wp_at_succ
theorem row_in {w : World} {a : Option Addr} {len cap : Nat} {zs : List Int} (h : IsRow .u64 w a len cap zs) (hl : 0 < len) :
    ∃ b off f, a = some ⟨b, off, none⟩ ∧ Row w b off len f ∧ Nums f := by
  rcases h with ⟨_, rfl, _⟩ | ⟨x, rfl, hc, _, hz, hcell, hwf⟩
  · omega
  · obtain ⟨b, off, rfl, hcs⟩ := ints_at hcell (by omega)
    exact ⟨b, off, fun j => zs.getD j 0, rfl, fun j hj => hcs j (by omega), nums_in hwf⟩
theorem prow_in {w : World} {a : Option Addr} {len cap : Nat} {zs : List Int} (h : IsRow .u64 w a len cap zs) : ∃ g, PRow w a len g ∧ Nums g := by
  by_cases hl : 0 < len
  · obtain ⟨b, off, f, e, hr, hv⟩ := row_in h hl
    exact ⟨f, fun _ => ⟨b, off, e, hr⟩, hv⟩
  · exact ⟨fun _ => 0, fun h => absurd h hl, Nums_nil⟩
theorem len_in {w : World} {a : Option Addr} {len cap : Nat} {zs : List Int} (h : IsRow .u64 w a len cap zs) : len ≤ maxLen := by
  rcases h with ⟨_, rfl, _⟩ | ⟨_, _, h1, h2, _⟩
  · exact Nat.zero_le _
  · exact Nat.le_trans h1 h2
theorem cap_in {w : World} {a : Option Addr} {len cap : Nat} {zs : List Int} (h : IsRow .u64 w a len cap zs) : len ≤ cap := by
  rcases h with ⟨_, rfl, _⟩ | ⟨_, _, h1, _⟩
  · exact Nat.zero_le _
  · exact h1
/-- What holds of the world all along. -/
structure St (w W : World) (B : Nat) (g : Int) (v : Value) : Prop where
  bel : Below w.heap.size w W
  box : Box2 W B (.int .i64 g) v
theorem St.next {w W W' : World} {B : Nat} {g : Int} {v : Value} (h : St w W B g v) (hb : Below W.heap.size W W') : St w W' B g v := ⟨h.bel.trans (hb.mono h.bel.size), h.box.kept hb⟩
theorem St.start (w : World) (g : Int) (v : Value) (t : TypeId) : St w (w.alloc (.cells #[.int .i64 g, v] t)) w.heap.size g v := ⟨(Below.refl _ w).alloc (Nat.le_refl _) _, Box2.new w _ _ _⟩
theorem lrow_none (w : World) (a : Option Addr) (A : Nat → Option Addr) (L C : Nat → Nat) (F : Nat → Nat → Int) : LRow w a 0 A L C F := fun h => absurd h (by omega)

set_option maxHeartbeats 1000000 in
set_option maxRecDepth 100000 in
theorem says_bad (c : CQ) (g : Int) (ao : Option Addr) (n cap : Nat) (A : Nat → Option Addr) (C : Nat → Nat) (ad : Option Addr) (k kc : Nat) (x : Int) (w : World) (hg : c.log = g) (hn : c.layers.length = n) (hr : CRow w ao c.layers A C) (hx : checkE c x) (hx0 : x ≠ 0) :
    Calls Tryd.prog 4 #[.agg #[.int .i64 g, .slice ao n cap], .slice ad k kc] w fun e w' => e = .returned (.bool true) ∧ Below w.heap.size w w' := by
  have HR := hid hr
  have HX := hid hx
  have HG := hid hg
  have HN := hid hn
  have e1 : (x == 0) = false := by simp [hx0]
  have HX0 := hid hx0
  have HS0 := hid (St.start w g (.slice ao n cap) 39)
  clear hr hx hg hn hx0
  go_enter Tryd.func4, Tryd.ntmps4
  go_wp2_with fail
  obtain ⟨B, hB⟩ : ∃ B, w.heap.size = B := ⟨_, rfl⟩
  have HBE := hid hB
  have HS1 : Hid (St w (w.alloc (.cells #[.int .i64 g, .slice ao n cap] 39)) B g (.slice ao n cap)) := hid (by rw [← hB]; exact HS0.out)
  rw [hB]
  clear hB HS0
  generalize w.alloc (.cells #[.int .i64 g, .slice ao n cap] 39) = W1 at HS1 ⊢
  refine (rcirc_any c g ao n cap A C W1 HG.out HN.out (HR.out.kept HS1.out.bel)).mono ?_
  rintro e w1 ⟨y, rfl, hy, hb⟩
  obtain rfl := checkE_one hy HX.out
  have HS2 := hid (HS1.out.next hb)
  obtain ⟨z0, z1, zl⟩ := HS2.out.box
  clear hb hy HS1
  go_wp2_with fail
  refine (run_bad c g ao n cap A C ad k kc y w1 HG.out HN.out (HR.out.kept HS2.out.bel) HX.out HX0.out).mono ?_
  rintro e w2 ⟨rfl, hb⟩
  have HS3 := hid (HS2.out.next hb)
  clear hb z0 z1 zl HS2
  obtain ⟨z0, z1, zl⟩ := HS3.out.box
  go_wp2_with fail
  refine (print_bad c g ao n cap A C y w2 HG.out HN.out (HR.out.kept HS3.out.bel) HX.out HX0.out).mono ?_
  rintro e w3 ⟨rfl, hb⟩
  have HS4 := hid (HS3.out.next hb)
  clear hb z0 z1 zl HS3
  obtain ⟨z0, z1, zl⟩ := HS4.out.box
  go_wp2_with fail
  refine (check_any c g ao n cap A C w3 HG.out HN.out (HR.out.kept HS4.out.bel)).mono ?_
  rintro e w4 ⟨v, rfl, hv, hb⟩
  obtain rfl := checkE_one hv HX.out
  have HS5 := hid (HS4.out.next hb)
  clear hb hv z0 z1 zl HS4
  go_wp2_with fail
  refine (same_ok none none 0 0 0 (fun _ => none) (fun _ => none) (fun _ => 0) (fun _ => 0) (fun _ => 0) (fun _ _ => 0) (fun _ _ => 0) w4 (by omega) (lrow_none _ _ _ _ _ _) (lrow_none _ _ _ _ _ _) (fun i hi => absurd hi (by omega)) (fun i j hi => absurd hi (by omega))).mono ?_
  rintro e w5 ⟨rfl, hb⟩
  have HS6 := hid (HS5.out.next hb)
  clear hb HS5
  go_wp2_with fail
  go_ret
  exact ⟨rfl, HS6.out.bel⟩

set_option maxHeartbeats 1000000 in
set_option maxRecDepth 100000 in
theorem says_form (c : CQ) (g b off n cap : Nat) (A : Nat → Option Addr) (C : Nat → Nat) (ad : Option Addr) (k kc N : Nat) (w : World) (hg : c.log = (g : Int)) (hn : c.layers.length = n) (hr : CRow w (some ⟨b, off, none⟩) c.layers A C) (hc : c.right) (sh : wrap64 ((2 : Int) ^ g) = (N : Int)) (hk : k ≠ N) :
    Calls Tryd.prog 4 #[.agg #[.int .i64 (g : Int), .slice (some ⟨b, off, none⟩) n cap], .slice ad k kc] w fun e w' => e = .returned (.bool true) ∧ Below w.heap.size w w' := by
  have g4 : g ≤ 4 := by have := hc.log; omega
  have HR := hid hr
  have HC := hid hc
  have HX := hid (checkE_zero.2 hc)
  have HG := hid hg
  have HN := hid hn
  have HK := hid hk
  have e1 : ((k : Int) == (N : Int)) = false := beq_eq_false_iff_ne.2 (by omega)
  have HS0 := hid (St.start w (g : Int) (.slice (some ⟨b, off, none⟩) n cap) 39)
  clear hr hc hg hn hk
  go_enter Tryd.func4, Tryd.ntmps4
  go_wp2_with fail
  obtain ⟨B, hB⟩ : ∃ B, w.heap.size = B := ⟨_, rfl⟩
  have HBE := hid hB
  have HS1 : Hid (St w (w.alloc (.cells #[.int .i64 (g : Int), .slice (some ⟨b, off, none⟩) n cap] 39)) B (g : Int) (.slice (some ⟨b, off, none⟩) n cap)) := hid (by rw [← hB]; exact HS0.out)
  rw [hB]
  clear hB HS0
  generalize w.alloc (.cells #[.int .i64 (g : Int), .slice (some ⟨b, off, none⟩) n cap] 39) = W1 at HS1 ⊢
  refine (rcirc_any c (g : Int) _ n cap A C W1 HG.out HN.out (HR.out.kept HS1.out.bel)).mono ?_
  rintro e w1 ⟨y, rfl, hy, hb⟩
  obtain rfl := checkE_one hy HX.out
  have HS2 := hid (HS1.out.next hb)
  obtain ⟨z0, z1, zl⟩ := HS2.out.box
  clear hb hy HS1
  go_wp2_with fail
  refine (rtext_any c (g : Int) b off n cap A C w1 HG.out HN.out HC.out (HR.out.kept HS2.out.bel)).mono ?_
  rintro e w2 ⟨T, rfl, hT, hb⟩
  have HS3 := hid (HS2.out.next hb)
  have HT := hid hT
  clear hb z0 z1 zl HS2 hT
  obtain ⟨z0, z1, zl⟩ := HS3.out.box
  go_wp2_with fail
  refine (run_form c g _ n cap A C ad k kc N w2 HG.out HN.out (HR.out.kept HS3.out.bel) HC.out sh HK.out).mono ?_
  rintro e w3 ⟨rfl, hb⟩
  have HS4 := hid (HS3.out.next hb)
  clear hb z0 z1 zl HS3
  obtain ⟨z0, z1, zl⟩ := HS4.out.box
  go_wp2_with fail
  refine (print_ok c (g : Int) b off n cap A C w3 HG.out HN.out HC.out (HR.out.kept HS4.out.bel)).mono ?_
  rintro e w4 ⟨T2, rfl, hT2, _, hb⟩
  obtain rfl : T2 = T := Go.WideShapes.bytes_inj (hT2.trans HT.out.symm)
  have HS5 := hid (HS4.out.next hb)
  clear hb z0 z1 zl HS4 hT2
  obtain ⟨z0, z1, zl⟩ := HS5.out.box
  go_wp2_with fail
  refine (check_any c (g : Int) _ n cap A C w4 HG.out HN.out (HR.out.kept HS5.out.bel)).mono ?_
  rintro e w5 ⟨v, rfl, hv, hb⟩
  obtain rfl := checkE_one hv HX.out
  have HS6 := hid (HS5.out.next hb)
  clear hb hv z0 z1 zl HS5
  go_wp2_with fail
  refine (same_ok none none 0 0 0 (fun _ => none) (fun _ => none) (fun _ => 0) (fun _ => 0) (fun _ => 0) (fun _ _ => 0) (fun _ _ => 0) w5 (by omega) (lrow_none _ _ _ _ _ _) (lrow_none _ _ _ _ _ _) (fun i hi => absurd hi (by omega)) (fun i j hi => absurd hi (by omega))).mono ?_
  rintro e w6 ⟨rfl, hb⟩
  have HS7 := hid (HS6.out.next hb)
  clear hb HS6
  go_wp2_with fail
  go_ret
  exact ⟨rfl, HS7.out.bel⟩

theorem wnews (w : World) (v : Value) (h : v.cells = #[v]) (t : TypeId) : ∀ j u, [v][j]? = some u → (w.alloc (.cells #[v] t)).cell? ((⟨w.heap.size, 0, none⟩ : Addr).add j) = some u := by
  intro j u hj
  match j, hj with
  | 0, hj => simp at hj; subst hj; simp [Addr.add]
theorem wone (a : Option Addr) (n c : Nat) : ∀ u ∈ [Value.slice a n c], u.oneCell' = true := by intro u hu; simp at hu; subst hu; rfl
set_option maxHeartbeats 1000000 in
set_option maxRecDepth 100000 in
theorem says_ok (c : CQ) (g b off n cap : Nat) (A : Nat → Option Addr) (C : Nat → Nat) (db doff N kc : Nat) (f : Nat → Int) (w : World) (hg : c.log = (g : Int)) (hn : c.layers.length = n) (hr : CRow w (some ⟨b, off, none⟩) c.layers A C) (hc : c.right) (sh : wrap64 ((2 : Int) ^ g) = (N : Int)) (hN : lenQ c 0 = N) (N16 : N ≤ 16) (N1 : 1 ≤ N) (hi : Row w db doff N f) (hf : Nums f) :
    Calls Tryd.prog 4 #[.agg #[.int .i64 (g : Int), .slice (some ⟨b, off, none⟩) n cap], .slice (some ⟨db, doff, none⟩) N kc] w fun e w' => e = .returned (.bool true) ∧ Below w.heap.size w w' := by
  obtain ⟨i0, hz, hz0, hz1, hz2⟩ := info_parts Tryd.infoW
  have HI0 := hid (And.intro hz (And.intro hz0 (And.intro hz1 hz2)))
  clear hz hz0 hz1 hz2
  have g4 : g ≤ 4 := by have := hc.log; omega
  have n4 : n ≤ 4 := by have := hc.few; omega
  have HR := hid hr
  have HC := hid hc
  have HX := hid (checkE_zero.2 hc)
  have HG := hid hg
  have HN := hid hn
  have HNN := hid hN
  have HI := hid hi
  have HF := hid hf
  have HIL := hid (hi.lt N1)
  have e1 : ((N : Int) == (N : Int)) = true := by simp
  have HS0 := hid (St.start w (g : Int) (.slice (some ⟨b, off, none⟩) n cap) 39)
  clear hr hc hg hn hi hf hN
  go_enter Tryd.func4, Tryd.ntmps4
  go_wp2_with fail
  obtain ⟨B, hB⟩ : ∃ B, w.heap.size = B := ⟨_, rfl⟩
  have HBE := hid hB
  have HS1 : Hid (St w (w.alloc (.cells #[.int .i64 (g : Int), .slice (some ⟨b, off, none⟩) n cap] 39)) B (g : Int) (.slice (some ⟨b, off, none⟩) n cap)) := hid (by rw [← hB]; exact HS0.out)
  rw [hB]
  clear hB HS0
  generalize w.alloc (.cells #[.int .i64 (g : Int), .slice (some ⟨b, off, none⟩) n cap] 39) = W1 at HS1 ⊢
  refine (rcirc_any c (g : Int) _ n cap A C W1 HG.out HN.out (HR.out.kept HS1.out.bel)).mono ?_
  rintro e w1 ⟨y, rfl, hy, hb⟩
  obtain rfl := checkE_one hy HX.out
  have HS2 := hid (HS1.out.next hb)
  obtain ⟨z0, z1, zl⟩ := HS2.out.box
  clear hb hy HS1
  go_wp2_with fail
  refine (rtext_any c (g : Int) b off n cap A C w1 HG.out HN.out HC.out (HR.out.kept HS2.out.bel)).mono ?_
  rintro e w2 ⟨T, rfl, hT, hb⟩
  have HS3 := hid (HS2.out.next hb)
  have HT := hid hT
  clear hb z0 z1 zl HS2 hT
  obtain ⟨z0, z1, zl⟩ := HS3.out.box
  go_wp2_with fail
  clear z0 z1 zl
  have HSH := hid sh
  clear sh
  obtain ⟨K, hK⟩ : ∃ K, w2.heap.size = K := ⟨_, rfl⟩
  have HKE := hid hK
  clear hK
  go_loopg [8, 31] (n + 1) (fun q v i wr => ∃ (k : Nat) (ws : Value) (D : Nat → Option Addr) (E : Nat → Nat), k ≤ n + 1 ∧ q = n + 1 - k ∧ v = ws ∧ i = .int .i64 (k : Int) ∧ Hid (Below K w2 wr) ∧ Hid (OwnW wr K ws k D (lenQ c) E (valsQ c f)))
  case atStart => exact ⟨0, _, fun _ => none, fun _ => 0, by omega, rfl, rfl, rfl, hid (Below.refl _ _), hid (OwnW.nil _ _ _ _ _ _)⟩
  case round =>
    obtain ⟨k, v, D, E, hk, rfl, hv, rfl, HBK, HO⟩ := hrel
    obtain rfl := hv.symm
    have HS := hid (HS3.out.next (by rw [HKE.out]; exact HBK.out))
    have hsK : K ≤ wr.heap.size := by have h1 := HBK.out.size; have h2 := HKE.out; omega
    obtain ⟨z0, z1, zl⟩ := HS.out.box
    by_cases hlt : k < n + 1
    · have k0 : (0 : Int) ≤ (k : Int) := by omega
      have k1 : (k : Int) < (n : Int) + 1 := by omega
      have HV : Hid (∀ (z : Int), z = (k : Int) - 1 → Calls Tryd.prog 17 #[.agg #[.int .i64 (g : Int), .slice (some ⟨b, off, none⟩) n cap], .slice (some ⟨db, doff, none⟩) N kc, .int .i64 z] wr fun e w' => ∃ v, e = .returned v ∧ Own w' wr.heap.size v (lenQ c k) (valsQ c f k) ∧ Below wr.heap.size wr w') := hid fun z hz =>
        rvals_any c (g : Int) b off n cap A C db doff N kc f HN.out HC.out HNN.out HF.out k (by omega) z wr hz (HR.out.kept HS.out.bel) (HI.out.kept HS.out.bel HIL.out)
      go_wp2_with fail
      refine (HV.out _ (by omega)).mono ?_
      rintro e w3 ⟨vv, rfl, hov, hb⟩
      obtain ⟨va, vc, rfl, hpv, _⟩ := hov.is
      have hvl : ∀ a, va = some a → wr.heap.size ≤ a.block ∧ a.block < w3.heap.size := fun a ha => by subst ha; exact World.ownsRow.lt hov a.block rfl
      have HB4 := hid (HBK.out.trans (hb.mono hsK))
      have HO4 := hid (HO.out.kept hb)
      have HAP : Hid (∀ a, va = some a → v.ownBlock ≠ some a.block ∧ a.block < w3.heap.size) := hid fun a ha => ⟨fun e => by have h1 := (HO.out.own.lt _ e).2; have h2 := (hvl a ha).1; omega, (hvl a ha).2⟩
      have HPV := hid hpv
      have hs3 : K ≤ w3.heap.size := Nat.le_trans hsK hb.size
      clear hb hov hpv hvl HV z0 z1 zl HO HS
      go_wp2_with (at_builtin; refine wpList_append_lies _ rfl _ _ 41 rfl K 22 i0 (.slice none 0 0) 1 24 Tryd.underlying41 HI0.out.1 HI0.out.2.1 HI0.out.2.2.1 HI0.out.2.2.2 rfl (by decide) _ _ _ rfl (World.ownsRow.alloc HO4.out.own _) ⟨w3.heap.size, 0, none⟩ 1 1 [.slice va (lenQ c k) vc] rfl rfl (wnews w3 _ rfl _) (wone _ _ _) (by omega) (by unfold maxLen; omega) (by omega) (by simp; omega) (w3.heap.size + 1) (by simp) ?_)
      intro g2 c2 w6 hown2 hgrow2 hat2 hlt2
      have hal := (Below.refl w3.heap.size w3).alloc (Nat.le_refl _) (.cells #[.slice va (lenQ c k) vc] 22)
      have HO6 : Hid (OwnW w6 K (.slice (some ⟨g2, 0, none⟩) (k + 1) c2) (k + 1) (putO D k va) (lenQ c) (putO E k vc) (valsQ c f)) := hid (OwnW.next (HO4.out.kept hal) hown2 hgrow2 (by rcases hat2 with e | e; exact .inl e; exact .inr (by rw [e]; simp)) (HPV.out.kept hal) (fun a ha => ⟨(HAP.out a ha).1, Nat.lt_of_lt_of_le (HAP.out a ha).2 hal.size⟩))
      have HB6 : Hid (Below K w2 w6) := hid ((HB4.out.alloc hs3 _).grown hgrow2 (by simp; omega) (by intro t ht; exact (HO4.out.own.lt t ht).1))
      clear hown2 hgrow2 hat2 hlt2 hal
      go_wp2_with fail
      go_roundg (n + 1 - (k + 1))
      case measure => go_light; omega
      case rel => exact ⟨k + 1, _, _, _, by omega, rfl, rfl, by go_num, HB6, HO6⟩
    · have e : k = n + 1 := by omega
      subst e
      obtain ⟨va, vc, rfl, hlw⟩ := HO.out.is
      have HLW := hid hlw
      clear hlw
      go_wp2_with fail
      refine (run_ok c g b off n cap A C db doff N kc f wr HG.out HN.out (HR.out.kept HS.out.bel) HC.out HSH.out HNN.out N16 N1 (HI.out.kept HS.out.bel HIL.out) HF.out).mono ?_
      rintro e w3 ⟨V, D2, rfl, hO2⟩
      have HL1 := hid hO2.lists
      have HLW2 := hid (HLW.out.kept hO2.below)
      have HS4 := hid (HS.out.next hO2.below)
      clear z0 z1 zl hO2 HS HLW HO HBK
      obtain ⟨z0, z1, zl⟩ := HS4.out.box
      go_wp2_with fail
      refine (print_ok c (g : Int) b off n cap A C w3 HG.out HN.out HC.out (HR.out.kept HS4.out.bel)).mono ?_
      rintro e w4 ⟨T2, rfl, hT2, _, hb⟩
      obtain rfl : T2 = T := Go.WideShapes.bytes_inj (hT2.trans HT.out.symm)
      have HL2 := hid (HL1.out.kept hb)
      have HLW3 := hid (HLW2.out.kept hb)
      have HS5 := hid (HS4.out.next hb)
      clear hb z0 z1 zl HS4 hT2 HL1 HLW2
      obtain ⟨z0, z1, zl⟩ := HS5.out.box
      go_wp2_with fail
      refine (check_any c (g : Int) _ n cap A C w4 HG.out HN.out (HR.out.kept HS5.out.bel)).mono ?_
      rintro e w5 ⟨v, rfl, hv, hb⟩
      obtain rfl := checkE_one hv HX.out
      have HS6 := hid (HS5.out.next hb)
      have HL3 := hid (HL2.out.kept hb)
      have HLW4 := hid (HLW3.out.kept hb)
      clear hb hv z0 z1 zl HS5 HL2 HLW3
      go_wp2_with fail
      refine (same_ok _ _ (n + 1) _ _ _ _ (lenQ c) _ _ (valsQ c f) (valsQ c f) w5 (by omega) HL3.out HLW4.out (fun i hi => by have := (lenQ_rng HC.out i (by rw [HN.out]; omega)).2; omega) (fun i j _ _ => rfl)).mono ?_
      rintro e w6 ⟨rfl, hb⟩
      have HS7 := hid (HS6.out.next hb)
      clear hb HS6
      go_wp2_with fail
      go_ret
      exact ⟨rfl, HS7.out.bel⟩

/-- What the row lists. -/
def laidT : List (String × DataW Unit) := [("math/bits.deBruijn32tab", Rows.laid_math_bits_deBruijn32tab), ("math/bits.deBruijn64tab", Rows.laid_math_bits_deBruijn64tab), ("internal/strconv.uint64pow10", Rows.laid_internal_strconv_uint64pow10)]
theorem door_met (os : Os) (args : Array Value) : laidMetH Tryd.prog laidT ((World.laidAll Tryd.prog os laidT).forCall (fun _ _ => 0) ⟨#[], args, []⟩).memory := by
  rw [MakeChecks.laidMetH_plain _ _ _ (by kernel_rfl)]
  exact laidMet_laidAll _ (by kernel_rfl) (by kernel_rfl)

set_option maxHeartbeats 4000000 in
set_option maxRecDepth 100000 in
theorem walk (g0 : Int) (a0 : Option Addr) (len0 cap0 : Nat) (c0 : CQ) (A0 : Nat → Option Addr) (C0 : Nat → Nat) (a1 : Option Addr) (len1 cap1 : Nat) (z1 : List Int) (w : World) (w0 : IsCirc w g0 a0 len0 cap0 c0 A0 C0) (w1 : IsRow .u64 w a1 len1 cap1 z1) :
    Calls Tryd.prog 4 #[.agg #[.int .i64 g0, .slice a0 len0 cap0], .slice a1 len1 cap1] w fun e w' => e = .returned (.bool true) ∧ Below w.heap.size w w' := by
  obtain ⟨x, hx⟩ : ∃ x, checkE c0 x := checkE_some c0
  by_cases hx0 : x = 0
  · subst hx0
    have hc := checkE_zero.1 hx
    have hlog := hc.log
    have e1 := w0.log
    obtain ⟨g, rfl⟩ : ∃ g : Nat, g0 = (g : Int) := ⟨g0.toNat, by omega⟩
    have g4 : g ≤ 4 := by omega
    obtain ⟨b, off, rfl, _⟩ := w0.row hc.some
    have hlen : lenQ c0 0 = 2 ^ g := by rw [lenQ, belowQ, e1]; simp
    have hr := lenQ_rng hc 0 (Nat.zero_le _)
    rw [hlen] at hr
    by_cases hk : len1 = 2 ^ g
    · subst hk
      obtain ⟨db, doff, f, rfl, hrow, hf⟩ := row_in w1 (by omega)
      exact says_ok c0 g b off len0 cap0 A0 C0 db doff (2 ^ g) cap1 f w e1 w0.lenE w0.row hc (shl_pow (by omega)) hlen hr.2 hr.1 hrow hf
    · exact says_form c0 g b off len0 cap0 A0 C0 a1 len1 cap1 (2 ^ g) w e1 w0.lenE w0.row hc (shl_pow (by omega)) hk
  · exact says_bad c0 g0 a0 len0 cap0 A0 C0 a1 len1 cap1 x w w0.log w0.lenE w0.row hx hx0

set_option maxRecDepth 100000 in
theorem lifted (os : Os) (started : os.Started) (H : Type) (enc : TypeId × Value → H) :
    ReturnsInHanded {} Tryd.checked os 4 .any (fun w args => (Rows.circuitSaysSpec.pre enc Tryd.prog Tryd.f4 [] false w args ∧ laidMetH Tryd.prog laidT w) ∧ sizedMet enc Tryd.prog Tryd.f4 (OpenSpec.ofChange Rows.circuitSaysSpec) false w args) (Rows.circuitSaysSpec.post enc Tryd.prog Tryd.f4 false true false false) := by
  refine wrap_and_shaped (C := Tryd.checked) (X := fun w _ => laidMetH Tryd.prog laidT w) (fun _ _ _ hh h => h.of_heap hh) own started (by kernel_rfl) Tryd.func4
    (ChangeSpec.witness_shaped (enc := enc) (C := Tryd.checked) (os := os) (X := fun w _ => laidMetH Tryd.prog laidT w) false (World.laidAll Tryd.prog os laidT) #[.agg #[.int .i64 0, .slice none 0 0], .slice none 0 0] 8 (World.laidAll_os _ _ _) (World.shaped_of_ZipB (by kernel_rfl) (by kernel_rfl)) (by kernel_rfl) (by kernel_rfl) (by kernel_rfl) (door_met os _)) ?_
  intro W base args ds gs before hval0 hW _ _ hL hsh _
  have hval : ∀ (j : Nat) t v, Tryd.f4.params[j]? = some t → args[j]? = some v → Value.okWide Tryd.prog W .any base t v := hval0
  have hW' := hW
  obtain ⟨p, q, hA0, hV, rfl, hfz, hnd⟩ := hW
  have hA : DataW.TrodAll enc Tryd.prog W 0 (fun _ => true) true Tryd.f4.params.toList args.toList ds p := hA0
  rw [Tryd.params4] at hA hval
  obtain ⟨v0, vs0, d0, ds0, p0, q0, hargs, rfl, rfl, h0, r0⟩ := trodAll_cons hA
  obtain ⟨v1, vs1, d1, ds1, p1, q1, rfl, rfl, rfl, h1, r1⟩ := trodAll_cons r0
  obtain ⟨rfl, rfl, rfl⟩ := trodAll_nil r1
  obtain rfl : args = #[v0, v1] := by cases args; simp_all
  obtain ⟨rfl, rfl⟩ := trodVars_none hV
  obtain ⟨g0, a0, len0, cap0, rfl⟩ := circ_val (hval 0 39 v0 rfl rfl) h0
  have k0 := h0
  have lt0 : ∀ x ∈ p0, x.block < W.heap.size := by obtain ⟨m, hm⟩ := k0; exact DataW.trod_lt m _ _ _ hm
  obtain ⟨c0, A0, C0, w0⟩ := circ_of h0
  obtain ⟨a1, len1, cap1, rfl⟩ := okWide_slice Tryd.underlying22 (hval 1 22 v1 rfl rfl)
  have k1 := h1
  have lt1 : ∀ x ∈ p1, x.block < W.heap.size := by obtain ⟨m, hm⟩ := k1; exact DataW.trod_lt m _ _ _ hm
  obtain ⟨z1, w1⟩ : ∃ zs, IsRow .u64 W a1 len1 cap1 zs := by
    obtain ⟨fuel, hf⟩ := h1
    rcases open_ints Tryd.underlying22 Tryd.underlying23 (by kernel_rfl) hf with ⟨hcs, _⟩ | ⟨x, l, c, zs, hcs, _, hl, hm, hz, _, hcell, hwz⟩
    · simp [Value.cells] at hcs
      obtain ⟨rfl, rfl, rfl⟩ := hcs
      exact ⟨[], .inl ⟨rfl, rfl, rfl, rfl⟩⟩
    · simp [Value.cells] at hcs
      obtain ⟨rfl, rfl, rfl⟩ := hcs
      exact ⟨zs, .inr ⟨_, rfl, hl, hm, by simpa using hz, hcell, hwz⟩⟩
  clear hA0 hval0
  refine (walk g0 a0 len0 cap0 c0 A0 C0 a1 len1 cap1 z1 W w0 w1).mono fun e W' ⟨he, bel⟩ => ?_
  subst he
  exact ⟨_, rfl, _, _, _, [], _, [], hW', trodAll_mk1 (shut_bool Tryd.underlying4 _), (trodAll_cons_mk (Below.trod laidOut (by kernel_rfl) (of_decide_eq_true (by kernel_rfl)) k0 bel lt0) (trodAll_cons_mk (Below.trod laidOut (by kernel_rfl) (of_decide_eq_true (by kernel_rfl)) k1 bel lt1) trodAll_mk0)), rfl, bel.frame _, fun h => by cases h⟩

theorem over : Rows.circuitSaysRow.holds Tryd.pinned (OpenSpec.ofChange Rows.circuitSaysSpec) :=
  OpenClaim.holds_of_wide 4 Tryd.f4 rfl rfl rfl rfl rfl rfl rfl ⟨rfl, rfl, rfl, rfl, rfl⟩ rfl rfl rfl rfl rfl (by kernel_rfl) Tryd.func4 (by kernel_rfl)
    (of_decide_eq_true (by kernel_rfl)) (by unfold Func.isWrapper; first | (rw [if_pos (by decide +kernel)]; kernel_rfl) | (rw [if_neg (by decide +kernel)]; exact ⟨rfl, rfl⟩))
    (fun os started H enc _ => lifted os started H enc)

/-- ████ THE STATEMENT ████ -/
theorem proved : Rows.CircuitSaysSaid := over
end Go.Proofs.YtoogpkcpheannabDoor.circuitSays

namespace Go.Proofs.YtoogpkcpheannabDoor
/-- The given statement: the row's, tied to the program's text. -/
theorem circuitSays_holds : Rows.CircuitSaysCardSaid :=
  Claim7.holds_tied_plain_at .later [] [.data, .data, .data] true (true, "8f5987a9688e69e774a5c85026c547735397b07dd7131d9bbab2720661fba156") false
    circuitSays.proved (fun _ h => by cases h) (by kernel_rfl) (fun _ h => by cases h) circuitSays_row_tie rfl ⟨rfl, rfl⟩ (by kernel_rfl) rfl
    (fun f fn hf hfn => by
      obtain rfl : f = 4 := Option.some.inj ((show Tryd.prog.funcNamed "tallystick/tallylaw.CircuitSays" = some 4 by kernel_rfl).symm.trans hf) |>.symm
      obtain rfl : fn = Tryd.f4 := (Option.some.inj (Tryd.func4.symm.trans hfn)).symm
      exact ⟨by kernel_rfl, fun j t ht => by
        rw [Tryd.params4] at ht
        have hm : t ∈ [39, 22] := by simpa using Array.mem_of_getElem? ht
        have hall : ([39, 22].all fun u => !Tryd.prog.wantsStandIn u) = true := by kernel_rfl
        exact (show Tryd.prog.wantsStandIn t = false by simpa using List.all_eq_true.1 hall t hm)⟩)
    (by kernel_rfl)
end Go.Proofs.YtoogpkcpheannabDoor
