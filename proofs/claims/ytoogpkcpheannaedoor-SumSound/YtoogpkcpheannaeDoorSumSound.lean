/-
  Whatever list of lists, whatever integer, whatever claim, whatever rounds and whatever draws are handed in, the law SumSound answers true and writes nothing that was there: who claims a wrong sum, and is held to be right up to the end, with what is truly left, has told a wrong round that has the right one's value at its draw; no condition; tied to the program's text: Go's two tables deBruijn32tab and deBruijn64tab hold what math/bits lays.
-/
import Derived.Test.YtoogpkcpheannaeDoorRows
import Derived.Test.YtoogpkcpheannaeDoorListsOpen
import Derived.Test.YtoogpkcpheannaeDoorCards
import Derived.Test.YtoogpkcpheannaeDoorTie
import Derived.Test.YtoogpkcpheannaeDoorWrap
import Derived.Test.YtoogpkcpheannaeDoorLaid
import Derived.SevenTiedAt
import Derived.WalkKit
import Derived.Test.YtoogpkcpheannaeDoorSumK
import Derived.Test.YtoogpkcpheannaeDoorKeepL
import Derived.Test.YtoogpkcpheannaeDoorRefVars
import Derived.ProofKit
import Derived.OpenShut
import Derived.ShutString
import Derived.ChangeOld
import Derived.Below
namespace Go.Proofs.YtoogpkcpheannaeDoor.sumSound
open Go.ChangeShapes Go.WideShapes Go.ChangeAt Go.RowKit
open Go.ChangeMaps (open_string shut_string)
set_option linter.unusedVariables false

theorem own : ownKnob Tryd.prog.godebug = none := by kernel_rfl
theorem laidOut : laidOutB Tryd.prog = true := by kernel_rfl

/-- WHAT THE WALK IS TOLD OF A SLICE OF INTEGERS THAT CAME IN: it is nil; or it leads to a row of 'cap' cells, the numbers 'zs' (the first 'len' are its elements, the rest its spare room), each fitting its kind. -/
def IsRow (k : IntKind) (w : World) (a : Option Addr) (len cap : Nat) (zs : List Int) : Prop :=
  (a = none ∧ len = 0 ∧ cap = 0 ∧ zs = []) ∨
  ∃ x, a = some x ∧ len ≤ cap ∧ cap ≤ maxLen ∧ zs.length = cap ∧ (∀ i, i < zs.length → w.cell? (x.add i) = some (.int k (zs.getD i 0))) ∧ ∀ n ∈ zs, (Lit.int k n).wf = true

attribute [local go_sem ↓] Go.wp_at_zero Go.wp_at_succ
theorem row_of {w : World} {a : Option Addr} {len cap : Nat} {zs : List Int} (h : IsRow .u64 w a len cap zs) (hl : 0 < len) :
    ∃ b off f, a = some ⟨b, off, none⟩ ∧ Row w b off len f ∧ Nums f := by
  rcases h with ⟨_, rfl, _⟩ | ⟨x, rfl, hc, _, hz, hcell, hwf⟩
  · omega
  · obtain ⟨b, off, rfl, hcs⟩ := ints_at hcell (by omega)
    exact ⟨b, off, fun j => zs.getD j 0, rfl, fun j hj => hcs j (by omega), nums_of_wf hwf⟩
theorem Nums_zero : Nums (fun _ => 0) := fun _ => by dsimp only; omega
theorem prow_of {w : World} {a : Option Addr} {len cap : Nat} {zs : List Int} (h : IsRow .u64 w a len cap zs) : ∃ g, PRow w a len g ∧ Nums g := by
  by_cases hl : 0 < len
  · obtain ⟨b, off, f, e, hr, hv⟩ := row_of h hl
    exact ⟨f, fun _ => ⟨b, off, e, hr⟩, hv⟩
  · exact ⟨fun _ => 0, fun h => absurd h hl, Nums_zero⟩
theorem len_max {w : World} {a : Option Addr} {len cap : Nat} {zs : List Int} (h : IsRow .u64 w a len cap zs) : len ≤ maxLen := by
  rcases h with ⟨_, rfl, _⟩ | ⟨_, _, h1, h2, _⟩
  · exact Nat.zero_le _
  · exact Nat.le_trans h1 h2
theorem i64_rng {a : Int} (h : (Lit.int .i64 a).wf = true) : -9223372036854775808 ≤ a ∧ a ≤ 9223372036854775807 := by
  simp [Lit.wf, IntKind.min, IntKind.max, IntKind.signed, IntKind.bits] at h
  omega
/-- What holds of the world all along. -/
structure St (w W : World) (B m : Nat) (a c : Nat → Nat) (N : Nat) (G : Nat → Nat → Int) (bd n : Nat) (D : Nat → Int) (ar : Option Addr) (mr : Nat) (A : Nat → Option Addr) (L C : Nat → Nat) (F : Nat → Nat → Int) : Prop where
  bel : Below w.heap.size w W
  t : Tab W
  tb : Tabs W B 0 m a (fun _ => 0) c N G
  d : PRow W (some ⟨bd, 0, none⟩) n D
  r : LRow W ar mr A L C F
theorem St.next {w W W' : World} {B m : Nat} {a c : Nat → Nat} {N : Nat} {G : Nat → Nat → Int} {bd n : Nat} {D : Nat → Int} {ar : Option Addr} {mr : Nat} {A : Nat → Option Addr} {L C : Nat → Nat} {F : Nat → Nat → Int} (h : St w W B m a c N G bd n D ar mr A L C F) (hN : 0 < N) (hb : Below W.heap.size W W') : St w W' B m a c N G bd n D ar mr A L C F :=
  ⟨h.bel.trans (hb.mono h.bel.size), h.t.kept hb h.t.1, h.tb.kept hb hN, h.d.kept hb, h.r.kept hb⟩
theorem prod_step (G : Nat → Nat → Int) (D : Nat → Int) (n t : Nat) (p y : Int) (hp : p = ofK (prK (fun i => evS (kF G i) (fun j => kk (D j)) n) t)) (hy : ofK (evS (kF G t) (fun j => kk (D j)) n) = y) : mulQ p y = ofK (prK (fun i => evS (kF G i) (fun j => kk (D j)) n) (t + 1)) := by
  rw [mulQ_ofK, hp, kk_ofK, ← hy, kk_ofK]; rfl

theorem v_form_of (m : Nat) (L : Nat → Nat) : (∃ c, 2 ≤ c ∧ c ≤ 8 ∧ ∀ i, i < m → L i = c) ∨ ∀ c, ¬ (2 ≤ c ∧ c ≤ 8 ∧ ∀ i, i < m → L i = c) := by
  by_cases h : ∃ c, 2 ≤ c ∧ c ≤ 8 ∧ ∀ i, i < m → L i = c
  · exact .inl h
  · exact .inr fun c hc => h ⟨c, hc⟩

theorem at_round {W : World} {ar : Option Addr} {mr : Nat} {A : Nat → Option Addr} {L C : Nat → Nat} {F : Nat → Nat → Int} (h : LRow W ar mr A L C F) (i cr : Nat) (hi : i < mr) (hL : L i = cr) (hc2 : 2 ≤ cr) (hc8 : cr ≤ 8) (hF : Nums (F i)) (x : Int) (x0 : 0 ≤ x) (x1 : x ≤ 18446744073709551615) :
    Calls Tryd.prog 18 #[.slice (A i) cr (C i), .int .u64 x] W fun e w' => e = .returned (.tuple #[.int .u64 (atQ (F i) cr x), .int .i64 0]) ∧ Below W.heap.size W w' := by
  obtain ⟨b, off, _, hr⟩ := h (by omega)
  obtain ⟨br, or, eA, hrr⟩ := (hr i hi).2 (by omega)
  rw [hL] at hrr
  rw [eA]
  exact at_ok br or cr (C i) (F i) x W (by omega) hc8 hrr hF x0 x1
/-- What holds in the loops: the rounds that were told, and the right ones. -/
structure Sb (w W : World) (B m : Nat) (a c : Nat → Nat) (N : Nat) (G : Nat → Nat → Int) (bd n : Nat) (D : Nat → Int) (ar : Option Addr) (A : Nat → Option Addr) (L C : Nat → Nat) (F : Nat → Nat → Int) (bp : Nat) (ap : Nat → Nat) : Prop where
  s : St w W B m a c N G bd n D ar n A L C F
  p : Tabs W bp 0 n ap (fun _ => 0) (fun _ => m + 1) (m + 1) (rightF G m n D)
theorem Sb.next {w W W' : World} {B m : Nat} {a c : Nat → Nat} {N : Nat} {G : Nat → Nat → Int} {bd n : Nat} {D : Nat → Int} {ar : Option Addr} {A : Nat → Option Addr} {L C : Nat → Nat} {F : Nat → Nat → Int} {bp : Nat} {ap : Nat → Nat} (h : Sb w W B m a c N G bd n D ar A L C F bp ap) (hN : 0 < N) (hb : Below W.heap.size W W') : Sb w W' B m a c N G bd n D ar A L C F bp ap :=
  ⟨h.s.next hN hb, h.p.kept hb (by omega)⟩
theorem Sb.dcell {w W : World} {B m : Nat} {a c : Nat → Nat} {N : Nat} {G : Nat → Nat → Int} {bd n : Nat} {D : Nat → Int} {ar : Option Addr} {A : Nat → Option Addr} {L C : Nat → Nat} {F : Nat → Nat → Int} {bp : Nat} {ap : Nat → Nat} (h : Sb w W B m a c N G bd n D ar A L C F bp ap) (i : Nat) (hi : i < n) (y : Int) (hy : D i = y) : W.cell? ⟨bd, i, none⟩ = some (.int .u64 y) := by
  obtain ⟨b, o, e, hr⟩ := h.s.d (by omega)
  obtain ⟨rfl, rfl⟩ : bd = b ∧ 0 = o := by simpa using e
  have := hr i hi
  rw [Nat.zero_add, hy] at this
  exact this
theorem Sb.rcell {w W : World} {B m : Nat} {a c : Nat → Nat} {N : Nat} {G : Nat → Nat → Int} {bd n : Nat} {D : Nat → Int} {b o : Nat} {A : Nat → Option Addr} {L C : Nat → Nat} {F : Nat → Nat → Int} {bp : Nat} {ap : Nat → Nat} (h : Sb w W B m a c N G bd n D (some ⟨b, o, none⟩) A L C F bp ap) (i cr : Nat) (hi : i < n) (hL : L i = cr) : W.cell? ⟨b, o + i, none⟩ = some (.slice (A i) cr (C i)) := by
  obtain ⟨b2, o2, e, hr⟩ := h.s.r (by omega)
  obtain ⟨rfl, rfl⟩ : b = b2 ∧ o = o2 := by simpa using e
  rw [(hr i hi).1, hL]
theorem Sb.pcell {w W : World} {B m : Nat} {a c : Nat → Nat} {N : Nat} {G : Nat → Nat → Int} {bd n : Nat} {D : Nat → Int} {ar : Option Addr} {A : Nat → Option Addr} {L C : Nat → Nat} {F : Nat → Nat → Int} {bp : Nat} {ap : Nat → Nat} (h : Sb w W B m a c N G bd n D ar A L C F bp ap) (i : Nat) (hi : i < n) : W.cell? ⟨bp, i, none⟩ = some (.slice (some ⟨ap i, 0, none⟩) (m + 1) (m + 1)) := by
  have := h.p.cell i hi
  rw [Nat.zero_add] at this
  exact this

/-- What the row lists. -/
def laidT : List (String × DataW Unit) := [("math/bits.deBruijn32tab", Rows.laid_math_bits_deBruijn32tab), ("math/bits.deBruijn64tab", Rows.laid_math_bits_deBruijn64tab)]
theorem door_met (os : Os) (args : Array Value) : laidMetH Tryd.prog laidT ((World.laidAll Tryd.prog os laidT).forCall (fun _ _ => 0) ⟨#[], args, []⟩).memory := by
  rw [MakeChecks.laidMetH_plain _ _ _ (by kernel_rfl)]
  exact laidMet_laidAll _ (by kernel_rfl) (by kernel_rfl)
theorem tab_of_laid {W : World} (h : laidMetH Tryd.prog laidT W) : Tab W := by
  rw [MakeChecks.laidMetH_plain _ _ _ (by kernel_rfl)] at h
  obtain ⟨ps, hv, _⟩ := h
  exact tab_of_vars hv

set_option maxHeartbeats 4000000 in
set_option maxRecDepth 100000 in
theorem walk (a0 : Option Addr) (len0 cap0 : Nat) (A0 : Nat → Option Addr) (L0 C0 : Nat → Nat) (F0 : Nat → Nat → Int) (a1 : Int) (a2 : Int) (a3 : Option Addr) (len3 cap3 : Nat) (A3 : Nat → Option Addr) (L3 C3 : Nat → Nat) (F3 : Nat → Nat → Int) (a4 : Option Addr) (len4 cap4 : Nat) (z4 : List Int) (w : World) (w0 : IsLists w a0 len0 cap0 A0 L0 C0 F0) (w1 : (Lit.int .i64 a1).wf = true) (w2 : (Lit.int .u64 a2).wf = true) (w3 : IsLists w a3 len3 cap3 A3 L3 C3 F3) (w4 : IsRow .u64 w a4 len4 cap4 z4) (ht : Tab w) :
    Calls Tryd.prog 3 #[.slice a0 len0 cap0, .int .i64 a1, .int .u64 a2, .slice a3 len3 cap3, .slice a4 len4 cap4] w fun e w' => e = .returned (.bool true) ∧ Below w.heap.size w w' := by
  obtain ⟨hl, hmax, hF, hcap⟩ := w0
  obtain ⟨k0, k1⟩ := i64_rng w1
  obtain ⟨q0, q1⟩ := u64_of_wf w2
  obtain ⟨hlr, hmaxr, hFr, hcapr⟩ := w3
  obtain ⟨D0, hd0, hD0⟩ := prow_of w4
  obtain ⟨r, hr⟩ : ∃ r : Nat, a1 % 5 = (r : Int) := ⟨(a1 % 5).toNat, by omega⟩
  have hr4 : r ≤ 4 := by omega
  obtain ⟨N, hN⟩ : ∃ N, N = 2 ^ r := ⟨_, rfl⟩
  have hN1 : 1 ≤ N := by rw [hN]; exact Nat.one_le_two_pow
  have HN := hid hN
  have HL := hid hl
  have HLR := hid hlr
  have HF := hid (fun i (hi : i < len0) => (hF i hi).1)
  have HFR := hid (fun i (hi : i < len3) => (hFr i hi).1)
  have HR := hid hr
  have HD0 := hid hd0
  have HT := hid ht
  obtain ⟨D, hDe⟩ : ∃ D, padF len4 D0 = D := ⟨_, rfl⟩
  have HDD : Hid (Nums D) := hid (by rw [← hDe]; exact Nums_pad hD0 _)
  have HDE := hid hDe
  have hm3x : (len3 : Int) ≤ 9223372036854775807 := by have : maxLen = 9223372036854775807 := rfl; omega
  clear hl hmax hF hr hN hd0 hD0 ht hDe w1 w2 w4 hlr hmaxr hFr hcapr
  go_enter Tryd.func3, Tryd.ntmps3
  go_wp2_with (go_at_call 8; refine (two_ok _ HT.out).mono ?_; rintro e wa ⟨rfl, hb⟩; have HBA := hid hb; clear hb)
  refine (facts_any a0 len0 cap0 A0 L0 C0 F0 a1 r N wa hcap k0 k1 HR.out HN.out (HL.out.kept HBA.out) HF.out).mono ?_
  rintro e wb ⟨B, m, cc, a, c, G, rfl, hm1, hm3, htb, hG, hb⟩
  have HBB := hid (HBA.out.trans (hb.mono HBA.out.size))
  have HTB := hid htb
  have HG := hid hG
  have c0 := htb.cell 0 (by omega)
  have HD1 := hid ((HD0.out.kept HBA.out).kept hb)
  have HLR1 := hid ((HLR.out.kept HBA.out).kept hb)
  rw [Nat.zero_add] at c0
  clear hb htb hG HD0 HBA HLR
  have m0 : (0 : Int) < (m : Int) := by omega
  go_wp2_with (first
    | (go_at_call 10; refine (rvars_ok _ r N _ _ (by omega) HN.out).mono ?_; rintro e w' ⟨rfl, hw⟩; obtain rfl := hw.symm))
  refine (point_any _ len4 _ r D0 _ (by omega) HD1.out).mono ?_
  rintro e wc ⟨rfl, hmd⟩
  have HMD := hid hmd
  clear hmd
  have HS0 : Hid (St w wc B m a c N G wb.heap.size r D a3 len3 A3 L3 C3 F3) := hid ⟨HBB.out.trans (HMD.out.below.mono HBB.out.size), (HT.out.kept HBB.out HT.out.1).kept HMD.out.below (HT.out.kept HBB.out HT.out.1).1, HTB.out.kept HMD.out.below hN1, by rw [← HDE.out]; exact PRow.of HMD.out.row, HLR1.out.kept HMD.out.below⟩
  clear HBB HTB HMD c0 HD1 HLR1
  have HCL := hid (fun W (h : St w W B m a c N G wb.heap.size r D a3 len3 A3 L3 C3 F3) => sclaim_ok B 0 m cc a (fun _ => 0) c G r N W hm1 hm3 (by omega) HN.out h.t h.tb HG.out)
  by_cases h8 : 8 < len3
  · have g8 : (8 : Int) < (len3 : Int) := by omega
    go_wp2_with fail
    go_ret
    exact ⟨rfl, HS0.out.bel⟩
  · have g8 : ¬ (8 : Int) < (len3 : Int) := by omega
    by_cases hlen : len3 = r
    · subst hlen
      rcases v_form_of len3 L3 with ⟨cr, hc2, hc8, hLc⟩ | hno
      · rcases first_no (fun k => addQ (F3 k 0) (F3 k 1) = toldQ (nrm a2) F3 cr D k) len3 with hall | ⟨t, ht, hno, hall⟩
        · have HV := hid (verify_ok a3 (some ⟨wb.heap.size, 0, none⟩) len3 cap3 len3 cr A3 L3 C3 F3 D a2 wc (by omega) hc2 hc8 q0 q1 HS0.out.r hLc HFR.out HS0.out.d HDD.out hall)
          have HALL := hid hall
          have HLC := hid hLc
          clear hall hLc
          obtain ⟨z, hz⟩ : ∃ z, toldQ (nrm a2) F3 cr D len3 = z := ⟨_, rfl⟩
          have HZ := hid hz
          obtain ⟨y, hy⟩ : ∃ y, ofK (claimK (kF G) m N) = y := ⟨_, rfl⟩
          rw [hz] at HV
          rw [hy] at HCL
          have HY := hid hy
          clear hz hy
          obtain ⟨z0, z1⟩ := told_in a2 F3 cr D len3
          rw [HZ.out] at z0 z1
          by_cases hyc : y = nrm a2
          · have hb : (y == nrm a2) = true := by rw [hyc]; simp
            have hnr := fun W => norm_any a2 W q0 q1
            rw [← hyc] at hnr
            have HNR := hid hnr
            clear hnr hb
            go_wp2_with (first
              | (go_at_call 12; refine (HV.out).mono ?_; rintro e wd ⟨rfl, hb⟩; have HS1 := hid (HS0.out.next hN1 hb); clear hb)
              | (go_at_call 13; refine (HCL.out _ HS1.out).mono ?_; rintro e w' ⟨rfl, hw⟩; obtain rfl := hw.symm)
              | (go_at_call 14; refine (HNR.out _).mono ?_; rintro e w' ⟨rfl, hw⟩; obtain rfl := hw.symm))
            go_ret
            exact ⟨rfl, HS1.out.bel⟩
          · have hb : (y == nrm a2) = false := beq_eq_false_iff_ne.2 hyc
            have HYC := hid hyc
            have HNR := hid (fun W => norm_any a2 W q0 q1)
            clear hyc
            go_wp2_with (first
              | (go_at_call 12; refine (HV.out).mono ?_; rintro e wd ⟨rfl, hb⟩; have HS1 := hid (HS0.out.next hN1 hb); clear hb)
              | (go_at_call 13; refine (HCL.out _ HS1.out).mono ?_; rintro e w' ⟨rfl, hw⟩; obtain rfl := hw.symm)
              | (go_at_call 14; refine (HNR.out _).mono ?_; rintro e w' ⟨rfl, hw⟩; obtain rfl := hw.symm))
            clear HV HCL HNR HS0
            go_loopg [19, 79] m (fun q x i wr => ∃ (t : Nat) (p : Int), t ≤ m ∧ q = m - t ∧ x = .int .u64 p ∧ i = .int .i64 (t : Int) ∧ 0 ≤ p ∧ p ≤ 2305843009213693950 ∧ Hid (p = ofK (prK (fun i => evS (kF G i) (fun j => kk (D j)) len3) t)) ∧ Hid (St w wr B m a c N G wb.heap.size len3 D a3 len3 A3 L3 C3 F3))
            case atStart => exact ⟨0, 1, by omega, rfl, rfl, rfl, by omega, by omega, hid rfl, HS1⟩
            case round =>
              clear HS1
              obtain ⟨t, p, ht, rfl, rfl, rfl, p0, p1, HP, HS⟩ := hrel
              by_cases hlt : t < m
              · have c2 := HS.out.tb.cell t hlt
                rw [Nat.zero_add] at c2
                obtain ⟨v, hv⟩ : ∃ v, ofK (evS (kF G t) (fun j => kk (D j)) len3) = v := ⟨_, rfl⟩
                have hv2 : ofK (evS (fun j => kk (G t j)) (fun j => kk (D j)) len3) = v := hv
                have vr := ofK_rng (evS (kF G t) (fun j => kk (D j)) len3)
                have hev := eval_ok (a t) 0 len3 N (c t) len3 (some ⟨wb.heap.size, 0, none⟩) (G t) D wr (by omega) HN.out HS.out.t (HS.out.tb.row t hlt) (HG.out t hlt) HS.out.d HDD.out
                rw [hv2] at hev
                rw [hv] at vr
                obtain ⟨v0, v1⟩ := vr
                have HMU := hid (prod_step G D len3 t p v HP.out hv)
                have HEV := hid hev
                clear hev hv hv2
                have t0 : (0 : Int) ≤ (t : Int) := by omega
                have t1 : (t : Int) < (m : Int) := by omega
                go_wp2_with (first
                  | (go_at_call 15; refine (HEV.out).mono ?_; rintro e wf ⟨rfl, hb⟩; have HSF := hid (HS.out.next hN1 hb); clear hb)
                  | (go_at_call 16; refine (mul_any _ _ _ (by omega) (by omega) (by omega) (by omega)).mono ?_; rintro e w' ⟨rfl, hw⟩; obtain rfl := hw.symm))
                go_roundg (m - (t + 1))
                case measure => go_light; omega
                case rel => exact ⟨t + 1, _, by omega, rfl, rfl, by go_num, (mulQ_rng _ _).1, (mulQ_rng _ _).2, HMU, HSF⟩
              · have e : t = m := by omega
                subst e
                by_cases hpz : p = z
                · subst hpz
                  obtain ⟨ks, xs, hks, hxs, hne, heq⟩ := wrong_round G F3 t len3 N cr D a2 HN.out (by omega) hc2 hc8 HALL.out (by rw [HY.out]; exact HYC.out) (by rw [← HP.out, HZ.out])
                  have HNE := hid hne
                  have HEQ := hid heq
                  clear hne heq HP HZ HY HYC HALL
                  go_wp2_with fail
                  refine (sprove_ok B 0 t cc a (fun _ => 0) c G len3 N (some ⟨wb.heap.size, 0, none⟩) len3 D _ hm1 hm3 (by omega) HN.out HS.out.t HS.out.tb HG.out HS.out.d HDD.out).mono ?_
                  rintro e we ⟨b2, ap, rfl, hly, _⟩
                  have HSB0 : Hid (Sb w we B t a c N G wb.heap.size len3 D a3 A3 L3 C3 F3 wr.heap.size ap) := hid ⟨HS.out.next hN1 hly.below, hly.tabs⟩
                  clear hly HS
                  obtain ⟨bp, hbp⟩ : ∃ bp, wr.heap.size = bp := ⟨_, rfl⟩
                  rw [hbp] at HSB0 ⊢
                  clear hbp
                  obtain ⟨b3, o3, e3, _⟩ := HSB0.out.s.r (by omega)
                  subst e3
                  go_wp2_with fail
                  go_loopg [105] len3 (fun q i wq => ∃ i0 : Nat, i0 ≤ ks ∧ q = len3 - i0 ∧ i = .int .i64 (i0 : Int) ∧ Hid (Sb w wq B t a c N G wb.heap.size len3 D (some ⟨b3, o3, none⟩) A3 L3 C3 F3 bp ap))
                  case atStart => exact ⟨0, by omega, rfl, rfl, HSB0⟩
                  case round =>
                    clear HSB0
                    obtain ⟨i0, hi0, rfl, rfl, HSB⟩ := hrel
                    have hil : i0 < len3 := by omega
                    have j0 : (0 : Int) ≤ (i0 : Int) := by omega
                    have j1 : (i0 : Int) < (len3 : Int) := by omega
                    go_wp2_with fail
                    go_loopg [108] 9 (fun q i wq => ∃ x0 : Nat, x0 ≤ 9 ∧ q = 9 - x0 ∧ i = .int .u64 (x0 : Int) ∧ Hid (i0 = ks → x0 ≤ xs) ∧ Hid (Sb w wq B t a c N G wb.heap.size len3 D (some ⟨b3, o3, none⟩) A3 L3 C3 F3 bp ap))
                    case atStart => exact ⟨0, by omega, rfl, rfl, hid (fun _ => by omega), HSB⟩
                    case round =>
                      clear HSB
                      obtain ⟨x0, hx0, rfl, rfl, HX, HSB⟩ := hrel
                      by_cases hlt2 : x0 < 9
                      · have x2 : (x0 : Int) < 9 := by omega
                        have x3 : (0 : Int) ≤ (x0 : Int) := by omega
                        have cr1 := HSB.out.rcell i0 cr hil (HLC.out i0 hil)
                        obtain ⟨u, hu⟩ : ∃ u, atQ (F3 i0) cr (x0 : Int) = u := ⟨_, rfl⟩
                        obtain ⟨v, hv⟩ : ∃ v, atQ (rightF G t len3 D i0) (t + 1) (x0 : Int) = v := ⟨_, rfl⟩
                        have ha1 := at_round HSB.out.s.r i0 cr hil (HLC.out i0 hil) hc2 hc8 (HFR.out i0 hil) (x0 : Int) (by omega) (by omega)
                        rw [hu] at ha1
                        have HU := hid hu
                        have HVV := hid hv
                        have HA1 := hid ha1
                        clear ha1 hu hv
                        go_wp2_with fail
                        refine (HA1.out).mono ?_
                        rintro e wf ⟨rfl, hb⟩
                        have HS3 := hid (HSB.out.next hN1 hb)
                        clear hb HA1 cr1 HSB
                        have cp1 := HS3.out.pcell i0 hil
                        have ha2 := at_ok (ap i0) 0 (t + 1) (t + 1) (rightF G t len3 D i0) (x0 : Int) wf (by omega) (by omega) (HS3.out.p.row i0 hil) (Nums_right G t len3 D i0) (by omega) (by omega)
                        rw [HVV.out] at ha2
                        have HA2 := hid ha2
                        clear ha2
                        go_wp2_with fail
                        refine (HA2.out).mono ?_
                        rintro e wg ⟨rfl, hb⟩
                        have HS4 := hid (HS3.out.next hN1 hb)
                        clear hb HA2 cp1 HS3
                        by_cases huv : u = v
                        · have hbq : (u == v) = true := by rw [huv]; simp
                          have HX2 : Hid (i0 = ks → x0 + 1 ≤ xs) := hid (fun e => by
                            have h1 := HX.out e
                            by_cases e2 : x0 = xs
                            · subst e2; subst e
                              exact absurd (HU.out.trans (huv.trans HVV.out.symm)) HNE.out
                            · omega)
                          clear huv
                          go_wp2_with fail
                          go_roundg (9 - (x0 + 1))
                          case measure => go_light; omega
                          case rel => exact ⟨x0 + 1, by omega, rfl, by go_num, HX2, HS4⟩
                        · have hbq : (u == v) = false := beq_eq_false_iff_ne.2 huv
                          clear huv HU HVV HX
                          have cr2 := HS4.out.rcell i0 cr hil (HLC.out i0 hil)
                          obtain ⟨dk, hdk⟩ : ∃ dk, D i0 = dk := ⟨_, rfl⟩
                          have cd2 := HS4.out.dcell i0 hil dk hdk
                          have bdk := HDD.out i0
                          rw [hdk] at bdk
                          obtain ⟨dk0, dk1⟩ := bdk
                          obtain ⟨pp, hpp⟩ : ∃ pp, atQ (F3 i0) cr dk = pp := ⟨_, rfl⟩
                          obtain ⟨qq, hqq⟩ : ∃ qq, atQ (rightF G t len3 D i0) (t + 1) dk = qq := ⟨_, rfl⟩
                          have ha3 := fun W (h : LRow W (some ⟨b3, o3, none⟩) len3 A3 L3 C3 F3) => at_round h i0 cr hil (HLC.out i0 hil) hc2 hc8 (HFR.out i0 hil) dk dk0 dk1
                          have ha4 := fun W (h : Row W (ap i0) 0 (t + 1) (rightF G t len3 D i0)) => at_ok (ap i0) 0 (t + 1) (t + 1) (rightF G t len3 D i0) dk W (by omega) (by omega) h (Nums_right G t len3 D i0) dk0 dk1
                          rw [hpp] at ha3
                          rw [hqq] at ha4
                          have HA3 := hid ha3
                          have HA4 := hid ha4
                          have HQD : Hid (i0 = ks → pp = qq) := hid (fun e => by subst e; rw [← hpp, ← hqq, ← hdk]; exact HEQ.out)
                          have HDK := hid hdk
                          clear ha3 ha4 hpp hqq hdk
                          by_cases hpq : pp = qq
                          · have hbp : (pp == qq) = true := by rw [hpq]; simp
                            clear hpq
                            go_wp2_with fail
                            go_region_with (first | (go_at_call 18; refine (HA3.out _ (by exact HS4.out.s.r)).mono ?_; rintro e w5 ⟨rfl, hb⟩; have hb2 : Below wg.heap.size wg w5 := ⟨hb.os, hb.tape, hb.output, hb.size, hb.block⟩; have HS5 := hid (HS4.out.next hN1 hb2); have cp5 := HS5.out.pcell i0 hil; have cd5 := HS5.out.dcell i0 hil dk HDK.out; clear hb hb2))
                            all_goals (go_wp2_with fail)
                            all_goals (go_region_with (first | (go_at_call 18; refine (HA4.out _ (by exact HS5.out.p.row i0 hil)).mono ?_; rintro e w6 ⟨rfl, hb⟩; have hb2 : Below w5.heap.size w5 w6 := ⟨hb.os, hb.tape, hb.output, hb.size, hb.block⟩; have HS6 := hid (HS5.out.next hN1 hb2); clear hb hb2)))
                            all_goals (go_wp2_with fail)
                            all_goals go_ret
                            all_goals (exact ⟨rfl, HS6.out.s.bel⟩)
                          · have hbp : (pp == qq) = false := beq_eq_false_iff_ne.2 hpq
                            have hik : i0 < ks := by
                              by_cases e : i0 = ks
                              · exact absurd (HQD.out e) hpq
                              · omega
                            clear hpq
                            go_wp2_with fail
                            go_region_with (first | (go_at_call 18; refine (HA3.out _ (by exact HS4.out.s.r)).mono ?_; rintro e w5 ⟨rfl, hb⟩; have hb2 : Below wg.heap.size wg w5 := ⟨hb.os, hb.tape, hb.output, hb.size, hb.block⟩; have HS5 := hid (HS4.out.next hN1 hb2); have cp5 := HS5.out.pcell i0 hil; have cd5 := HS5.out.dcell i0 hil dk HDK.out; clear hb hb2))
                            all_goals (go_wp2_with fail)
                            all_goals (go_region_with (first | (go_at_call 18; refine (HA4.out _ (by exact HS5.out.p.row i0 hil)).mono ?_; rintro e w6 ⟨rfl, hb⟩; have hb2 : Below w5.heap.size w5 w6 := ⟨hb.os, hb.tape, hb.output, hb.size, hb.block⟩; have HS6 := hid (HS5.out.next hN1 hb2); clear hb hb2)))
                            all_goals (go_wp2_with fail)
                            all_goals (go_roundg (len3 - (i0 + 1)))
                            all_goals first | (go_light; omega) | (exact ⟨i0 + 1, by omega, rfl, by go_num, HS6⟩)
                      · have e9 : x0 = 9 := by omega
                        subst e9
                        have hik : i0 < ks := by
                          by_cases e : i0 = ks
                          · have := HX.out e; omega
                          · omega
                        go_wp2_with fail
                        go_roundg (len3 - (i0 + 1))
                        case measure => go_light; omega
                        case rel => exact ⟨i0 + 1, by omega, rfl, by go_num, HSB⟩
                · have hbz : (p != z) = true := bne_iff_ne.2 hpz
                  go_wp2_with fail
                  go_ret
                  exact ⟨rfl, HS.out.bel⟩
        · have HV := hid (verify_bad a3 (some ⟨wb.heap.size, 0, none⟩) len3 cap3 len3 cr A3 L3 C3 F3 D a2 wc (by omega) hc2 hc8 q0 q1 HS0.out.r hLc HFR.out HS0.out.d HDD.out t ht hall hno)
          clear hall hno hLc
          go_wp2_with (first
            | (go_at_call 12; refine (HV.out).mono ?_; rintro e wd ⟨rfl, hb⟩; have HS1 := hid (HS0.out.next hN1 hb); clear hb)
            | (go_at_call 13; refine (HCL.out _ HS1.out).mono ?_; rintro e w' ⟨rfl, hw⟩; obtain rfl := hw.symm))
          go_ret
          exact ⟨rfl, HS1.out.bel⟩
      · have HV := hid (verify_form a3 (some ⟨wb.heap.size, 0, none⟩) len3 cap3 len3 A3 L3 C3 F3 a2 wc (by omega) HS0.out.r hno)
        clear hno
        go_wp2_with (first
          | (go_at_call 12; refine (HV.out).mono ?_; rintro e w' ⟨rfl, hw⟩; obtain rfl := hw.symm)
          | (go_at_call 13; refine (HCL.out _ HS0.out).mono ?_; rintro e w' ⟨rfl, hw⟩; obtain rfl := hw.symm))
        go_ret
        exact ⟨rfl, HS0.out.bel⟩
    · have HV := hid (verify_arg a3 (some ⟨wb.heap.size, 0, none⟩) len3 cap3 r r a2 wc hlen)
      clear hlen
      go_wp2_with (first
        | (go_at_call 12; refine (HV.out).mono ?_; rintro e w' ⟨rfl, hw⟩; obtain rfl := hw.symm)
        | (go_at_call 13; refine (HCL.out _ HS0.out).mono ?_; rintro e w' ⟨rfl, hw⟩; obtain rfl := hw.symm))
      go_ret
      exact ⟨rfl, HS0.out.bel⟩

set_option maxRecDepth 100000 in
theorem lifted (os : Os) (started : os.Started) (H : Type) (enc : TypeId × Value → H) :
    ReturnsInHanded {} Tryd.checked os 3 .any (fun w args => (Rows.sumSoundSpec.pre enc Tryd.prog Tryd.f3 [] false w args ∧ laidMetH Tryd.prog laidT w) ∧ sizedMet enc Tryd.prog Tryd.f3 (OpenSpec.ofChange Rows.sumSoundSpec) false w args) (Rows.sumSoundSpec.post enc Tryd.prog Tryd.f3 false true false false) := by
  refine wrap_and_shaped (C := Tryd.checked) (X := fun w _ => laidMetH Tryd.prog laidT w) (fun _ _ _ hh h => h.of_heap hh) own started (by kernel_rfl) Tryd.func3
    (ChangeSpec.witness_shaped (enc := enc) (C := Tryd.checked) (os := os) (X := fun w _ => laidMetH Tryd.prog laidT w) false (World.laidAll Tryd.prog os laidT) #[.slice none 0 0, .int .i64 0, .int .u64 0, .slice none 0 0, .slice none 0 0] 8 (World.laidAll_os _ _ _) (World.shaped_of_ZipB (by kernel_rfl) (by kernel_rfl)) (by kernel_rfl) (by kernel_rfl) (by kernel_rfl) (door_met os _)) ?_
  intro W base args ds gs before hval0 hW _ _ hL hsh _
  have hval : ∀ (j : Nat) t v, Tryd.f3.params[j]? = some t → args[j]? = some v → Value.okWide Tryd.prog W .any base t v := hval0
  have hW' := hW
  obtain ⟨p, q, hA0, hV, rfl, hfz, hnd⟩ := hW
  have hA : DataW.TrodAll enc Tryd.prog W 0 (fun _ => true) true Tryd.f3.params.toList args.toList ds p := hA0
  rw [Tryd.params3] at hA hval
  obtain ⟨v0, vs0, d0, ds0, p0, q0, hargs, rfl, rfl, h0, r0⟩ := trodAll_cons hA
  obtain ⟨v1, vs1, d1, ds1, p1, q1, rfl, rfl, rfl, h1, r1⟩ := trodAll_cons r0
  obtain ⟨v2, vs2, d2, ds2, p2, q2, rfl, rfl, rfl, h2, r2⟩ := trodAll_cons r1
  obtain ⟨v3, vs3, d3, ds3, p3, q3, rfl, rfl, rfl, h3, r3⟩ := trodAll_cons r2
  obtain ⟨v4, vs4, d4, ds4, p4, q4, rfl, rfl, rfl, h4, r4⟩ := trodAll_cons r3
  obtain ⟨rfl, rfl, rfl⟩ := trodAll_nil r4
  obtain rfl : args = #[v0, v1, v2, v3, v4] := by cases args; simp_all
  obtain ⟨rfl, rfl⟩ := trodVars_none hV
  obtain ⟨a0, len0, cap0, rfl⟩ := okWide_slice Tryd.underlying22 (hval 0 22 v0 rfl rfl)
  have k0 := h0
  have lt0 : ∀ x ∈ p0, x.block < W.heap.size := by obtain ⟨m, hm⟩ := k0; exact DataW.trod_lt m _ _ _ hm
  obtain ⟨A0, L0, C0, F0, w0⟩ : ∃ A L C F, IsLists W a0 len0 cap0 A L C F := by
    obtain ⟨fuel, hf⟩ := h0
    exact lists_of hf
  obtain ⟨a1, rfl, rfl, rfl, w1⟩ := open_int Tryd.underlying3 (hval 1 3 v1 rfl rfl) h1
  obtain ⟨a2, rfl, rfl, rfl, w2⟩ := open_int Tryd.underlying23 (hval 2 23 v2 rfl rfl) h2
  obtain ⟨a3, len3, cap3, rfl⟩ := okWide_slice Tryd.underlying22 (hval 3 22 v3 rfl rfl)
  have k3 := h3
  have lt3 : ∀ x ∈ p3, x.block < W.heap.size := by obtain ⟨m, hm⟩ := k3; exact DataW.trod_lt m _ _ _ hm
  obtain ⟨A3, L3, C3, F3, w3⟩ : ∃ A L C F, IsLists W a3 len3 cap3 A L C F := by
    obtain ⟨fuel, hf⟩ := h3
    exact lists_of hf
  obtain ⟨a4, len4, cap4, rfl⟩ := okWide_slice Tryd.underlying24 (hval 4 24 v4 rfl rfl)
  have k4 := h4
  have lt4 : ∀ x ∈ p4, x.block < W.heap.size := by obtain ⟨m, hm⟩ := k4; exact DataW.trod_lt m _ _ _ hm
  obtain ⟨z4, w4⟩ : ∃ zs, IsRow .u64 W a4 len4 cap4 zs := by
    obtain ⟨fuel, hf⟩ := h4
    rcases open_ints Tryd.underlying24 Tryd.underlying23 (by kernel_rfl) hf with ⟨hcs, _⟩ | ⟨x, l, c, zs, hcs, _, hl, hm, hz, _, hcell, hwz⟩
    · simp [Value.cells] at hcs
      obtain ⟨rfl, rfl, rfl⟩ := hcs
      exact ⟨[], .inl ⟨rfl, rfl, rfl, rfl⟩⟩
    · simp [Value.cells] at hcs
      obtain ⟨rfl, rfl, rfl⟩ := hcs
      exact ⟨zs, .inr ⟨_, rfl, hl, hm, by simpa using hz, hcell, hwz⟩⟩
  clear hA0 hval0
  refine (walk a0 len0 cap0 A0 L0 C0 F0 a1 a2 a3 len3 cap3 A3 L3 C3 F3 a4 len4 cap4 z4 W w0 w1 w2 w3 w4 (tab_of_laid hL)).mono fun e W' ⟨he, bel⟩ => ?_
  subst he
  exact ⟨_, rfl, _, _, _, [], _, [], hW', trodAll_mk1 (shut_bool Tryd.underlying4 _), (trodAll_cons_mk (Below.trod laidOut (by kernel_rfl) (of_decide_eq_true (by kernel_rfl)) k0 bel lt0) (trodAll_cons_mk (shut_int Tryd.underlying3 w1) (trodAll_cons_mk (shut_int Tryd.underlying23 w2) (trodAll_cons_mk (Below.trod laidOut (by kernel_rfl) (of_decide_eq_true (by kernel_rfl)) k3 bel lt3) (trodAll_cons_mk (Below.trod laidOut (by kernel_rfl) (of_decide_eq_true (by kernel_rfl)) k4 bel lt4) trodAll_mk0))))), rfl, bel.frame _, fun h => by cases h⟩

theorem over : Rows.sumSoundRow.holds Tryd.pinned (OpenSpec.ofChange Rows.sumSoundSpec) :=
  OpenClaim.holds_of_wide 3 Tryd.f3 rfl rfl rfl rfl rfl rfl rfl ⟨rfl, rfl, rfl, rfl, rfl⟩ rfl rfl rfl rfl rfl (by kernel_rfl) Tryd.func3 (by kernel_rfl)
    (of_decide_eq_true (by kernel_rfl)) (by unfold Func.isWrapper; first | (rw [if_pos (by decide +kernel)]; kernel_rfl) | (rw [if_neg (by decide +kernel)]; exact ⟨rfl, rfl⟩))
    (fun os started H enc _ => lifted os started H enc)

/-- ████ THE STATEMENT ████ -/
theorem proved : Rows.SumSoundSaid := over
end Go.Proofs.YtoogpkcpheannaeDoor.sumSound

namespace Go.Proofs.YtoogpkcpheannaeDoor
/-- The given statement: the row's, tied to the program's text. -/
theorem sumSound_holds : Rows.SumSoundCardSaid :=
  Claim7.holds_tied_plain_at .later [] [.data, .data] true (true, "5307253d5b4ba94227bd18854644839d7585df36979264a21f446bd20fd14c80") false
    sumSound.proved (fun _ h => by cases h) (by kernel_rfl) (fun _ h => by cases h) sumSound_row_tie rfl ⟨rfl, rfl⟩ (by kernel_rfl) rfl
    (fun f fn hf hfn => by
      obtain rfl : f = 3 := Option.some.inj ((show Tryd.prog.funcNamed "tallystick/tallykeep.SumSound" = some 3 by kernel_rfl).symm.trans hf) |>.symm
      obtain rfl : fn = Tryd.f3 := (Option.some.inj (Tryd.func3.symm.trans hfn)).symm
      exact ⟨by kernel_rfl, fun j t ht => by
        rw [Tryd.params3] at ht
        have hm : t ∈ [22, 3, 23, 22, 24] := by simpa using Array.mem_of_getElem? ht
        have hall : ([22, 3, 23, 22, 24].all fun u => !Tryd.prog.wantsStandIn u) = true := by kernel_rfl
        exact (show Tryd.prog.wantsStandIn t = false by simpa using List.all_eq_true.1 hall t hm)⟩)
    (by kernel_rfl)
end Go.Proofs.YtoogpkcpheannaeDoor
