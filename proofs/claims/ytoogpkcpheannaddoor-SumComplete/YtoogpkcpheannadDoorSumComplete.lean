/-
  Whatever list of lists, whatever integer and whatever list of draws are handed in, the law SumComplete answers true and writes nothing that was there: LUND, FORTNOW, KARLOFF, NISAN: what is proved is held to be right, whatever is drawn, and what is left is the product of the tables' values there; no condition; tied to the program's text: Go's two tables deBruijn32tab and deBruijn64tab hold what math/bits lays.
-/
import Derived.Test.YtoogpkcpheannadDoorRows
import Derived.Test.YtoogpkcpheannadDoorListsOpen
import Derived.Test.YtoogpkcpheannadDoorCards
import Derived.Test.YtoogpkcpheannadDoorTie
import Derived.Test.YtoogpkcpheannadDoorWrap
import Derived.Test.YtoogpkcpheannadDoorLaid
import Derived.SevenTiedAt
import Derived.WalkKit
import Derived.Test.YtoogpkcpheannadDoorSumK
import Derived.Test.YtoogpkcpheannadDoorKeepL
import Derived.Test.YtoogpkcpheannadDoorRefVars
import Derived.ProofKit
import Derived.OpenShut
import Derived.ShutString
import Derived.ChangeOld
import Derived.Below
namespace Go.Proofs.YtoogpkcpheannadDoor.sumComplete
open Go.ChangeShapes Go.WideShapes Go.ChangeAt Go.RowKit
open Go.ChangeMaps (open_string shut_string)
set_option linter.unusedVariables false

theorem own : ownKnob Tryd.prog.godebug = none := by kernel_rfl
theorem laidOut : laidOutB Tryd.prog = true := by kernel_rfl

/-- WHAT THE WALK IS TOLD OF A SLICE OF INTEGERS THAT CAME IN: it is nil; or it leads to a row of 'cap' cells, the numbers 'zs' (the first 'len' are its elements, the rest its spare room), each fitting its kind. -/
def IsRow (k : IntKind) (w : World) (a : Option Addr) (len cap : Nat) (zs : List Int) : Prop :=
  (a = none ∧ len = 0 ∧ cap = 0 ∧ zs = []) ∨
  ∃ x, a = some x ∧ len ≤ cap ∧ cap ≤ maxLen ∧ zs.length = cap ∧ (∀ i, i < zs.length → w.cell? (x.add i) = some (.int k (zs.getD i 0))) ∧ ∀ n ∈ zs, (Lit.int k n).wf = true

attribute [local go_sem ↓] Go.wp_at_zero Go.wp_at_succ
theorem row_of {w : World} {a : Option Addr} {len cap : Nat} {zs : List Int} (h : IsRow .u64 w a len cap zs) (hl : 0 < len) :
    ∃ b off f, a = some ⟨b, off, none⟩ ∧ Row w b off len f ∧ Nums f := by
  rcases h with ⟨_, rfl, _⟩ | ⟨x, rfl, hc, _, hz, hcell, hwf⟩
  · omega
  · obtain ⟨b, off, rfl, hcs⟩ := ints_at hcell (by omega)
    exact ⟨b, off, fun j => zs.getD j 0, rfl, fun j hj => hcs j (by omega), nums_of_wf hwf⟩
theorem Nums_zero : Nums (fun _ => 0) := fun _ => by dsimp only; omega
theorem prow_of {w : World} {a : Option Addr} {len cap : Nat} {zs : List Int} (h : IsRow .u64 w a len cap zs) : ∃ g, PRow w a len g ∧ Nums g := by
  by_cases hl : 0 < len
  · obtain ⟨b, off, f, e, hr, hv⟩ := row_of h hl
    exact ⟨f, fun _ => ⟨b, off, e, hr⟩, hv⟩
  · exact ⟨fun _ => 0, fun h => absurd h hl, Nums_zero⟩
theorem len_max {w : World} {a : Option Addr} {len cap : Nat} {zs : List Int} (h : IsRow .u64 w a len cap zs) : len ≤ maxLen := by
  rcases h with ⟨_, rfl, _⟩ | ⟨_, _, h1, h2, _⟩
  · exact Nat.zero_le _
  · exact Nat.le_trans h1 h2
theorem i64_rng {a : Int} (h : (Lit.int .i64 a).wf = true) : -9223372036854775808 ≤ a ∧ a ≤ 9223372036854775807 := by
  simp [Lit.wf, IntKind.min, IntKind.max, IntKind.signed, IntKind.bits] at h
  omega
/-- What holds of the world all along. -/
structure St (w W : World) (B m : Nat) (a c : Nat → Nat) (N : Nat) (G : Nat → Nat → Int) (bd n : Nat) (D : Nat → Int) : Prop where
  bel : Below w.heap.size w W
  t : Tab W
  tb : Tabs W B 0 m a (fun _ => 0) c N G
  d : PRow W (some ⟨bd, 0, none⟩) n D
theorem St.next {w W W' : World} {B m : Nat} {a c : Nat → Nat} {N : Nat} {G : Nat → Nat → Int} {bd n : Nat} {D : Nat → Int} (h : St w W B m a c N G bd n D) (hN : 0 < N) (hb : Below W.heap.size W W') : St w W' B m a c N G bd n D :=
  ⟨h.bel.trans (hb.mono h.bel.size), h.t.kept hb h.t.1, h.tb.kept hb hN, h.d.kept hb⟩
theorem prod_step (G : Nat → Nat → Int) (D : Nat → Int) (n t : Nat) (p y : Int) (hp : p = ofK (prK (fun i => evS (kF G i) (fun j => kk (D j)) n) t)) (hy : ofK (evS (kF G t) (fun j => kk (D j)) n) = y) : mulQ p y = ofK (prK (fun i => evS (kF G i) (fun j => kk (D j)) n) (t + 1)) := by
  rw [mulQ_ofK, hp, kk_ofK, ← hy, kk_ofK]; rfl

/-- What the row lists. -/
def laidT : List (String × DataW Unit) := [("math/bits.deBruijn32tab", Rows.laid_math_bits_deBruijn32tab), ("math/bits.deBruijn64tab", Rows.laid_math_bits_deBruijn64tab)]
theorem door_met (os : Os) (args : Array Value) : laidMetH Tryd.prog laidT ((World.laidAll Tryd.prog os laidT).forCall (fun _ _ => 0) ⟨#[], args, []⟩).memory := by
  rw [MakeChecks.laidMetH_plain _ _ _ (by kernel_rfl)]
  exact laidMet_laidAll _ (by kernel_rfl) (by kernel_rfl)
theorem tab_of_laid {W : World} (h : laidMetH Tryd.prog laidT W) : Tab W := by
  rw [MakeChecks.laidMetH_plain _ _ _ (by kernel_rfl)] at h
  obtain ⟨ps, hv, _⟩ := h
  exact tab_of_vars hv

set_option maxHeartbeats 4000000 in
set_option maxRecDepth 100000 in
theorem walk (a0 : Option Addr) (len0 cap0 : Nat) (A0 : Nat → Option Addr) (L0 C0 : Nat → Nat) (F0 : Nat → Nat → Int) (a1 : Int) (a2 : Option Addr) (len2 cap2 : Nat) (z2 : List Int) (w : World) (w0 : IsLists w a0 len0 cap0 A0 L0 C0 F0) (w1 : (Lit.int .i64 a1).wf = true) (w2 : IsRow .u64 w a2 len2 cap2 z2) (ht : Tab w) :
    Calls Tryd.prog 5 #[.slice a0 len0 cap0, .int .i64 a1, .slice a2 len2 cap2] w fun e w' => e = .returned (.bool true) ∧ Below w.heap.size w w' := by
  obtain ⟨hl, hmax, hF, hcap⟩ := w0
  obtain ⟨k0, k1⟩ := i64_rng w1
  obtain ⟨D0, hd0, hD0⟩ := prow_of w2
  obtain ⟨r, hr⟩ : ∃ r : Nat, a1 % 5 = (r : Int) := ⟨(a1 % 5).toNat, by omega⟩
  have hr4 : r ≤ 4 := by omega
  obtain ⟨N, hN⟩ : ∃ N, N = 2 ^ r := ⟨_, rfl⟩
  have hN1 : 1 ≤ N := by rw [hN]; exact Nat.one_le_two_pow
  have HN := hid hN
  have HL := hid hl
  have HF := hid (fun i (hi : i < len0) => (hF i hi).1)
  have HR := hid hr
  have HD0 := hid hd0
  have HT := hid ht
  obtain ⟨D, hDe⟩ : ∃ D, padF len2 D0 = D := ⟨_, rfl⟩
  have HDD : Hid (Nums D) := hid (by rw [← hDe]; exact Nums_pad hD0 _)
  have HDE := hid hDe
  clear hl hmax hF hr hN hd0 hD0 ht hDe w1 w2
  go_enter Tryd.func5, Tryd.ntmps5
  go_wp2_with (go_at_call 21; refine (two_ok _ HT.out).mono ?_; rintro e wa ⟨rfl, hb⟩; have HBA := hid hb; clear hb)
  refine (facts_any a0 len0 cap0 A0 L0 C0 F0 a1 r N wa hcap k0 k1 HR.out HN.out (HL.out.kept HBA.out) HF.out).mono ?_
  rintro e wb ⟨B, m, cc, a, c, G, rfl, hm1, hm3, htb, hG, hb⟩
  have HBB := hid (HBA.out.trans (hb.mono HBA.out.size))
  have HTB := hid htb
  have HG := hid hG
  have c0 := htb.cell 0 (by omega)
  have HD1 := hid ((HD0.out.kept HBA.out).kept hb)
  rw [Nat.zero_add] at c0
  clear hb htb hG HD0 HBA
  have m0 : (0 : Int) < (m : Int) := by omega
  go_wp2_with (first
    | (go_at_call 8; refine (rvars_ok _ r N _ _ (by omega) HN.out).mono ?_; rintro e w' ⟨rfl, hw⟩; obtain rfl := hw.symm)
    | (go_at_call 12; refine (point_any _ len2 _ r D0 _ (by omega) HD1.out).mono ?_; rintro e wc ⟨rfl, hmd⟩; have HMD := hid hmd; clear hmd))
  have HS0 : Hid (St w wc B m a c N G wb.heap.size r D) := hid ⟨HBB.out.trans (HMD.out.below.mono HBB.out.size), (HT.out.kept HBB.out HT.out.1).kept HMD.out.below (HT.out.kept HBB.out HT.out.1).1, HTB.out.kept HMD.out.below hN1, by rw [← HDE.out]; exact PRow.of HMD.out.row⟩
  clear HBB HTB HMD c0 HD1
  obtain ⟨y, hy⟩ : ∃ y, ofK (claimK (kF G) m N) = y := ⟨_, rfl⟩
  have hcl := sclaim_ok B 0 m cc a (fun _ => 0) c G r N wc hm1 hm3 (by omega) HN.out HS0.out.t HS0.out.tb HG.out
  rw [hy] at hcl
  have HCL := hid hcl
  have yr := ofK_rng (claimK (kF G) m N)
  rw [hy] at yr
  obtain ⟨y0, y1⟩ := yr
  have hfit := fun k hk => right_fit G m r N D HN.out (by omega) k hk
  have hend := right_end G m r N D HN.out (by omega)
  rw [hy] at hfit hend
  have HFIT := hid hfit
  obtain ⟨z, hz⟩ : ∃ z, toldQ (nrm y) (rightF G m r D) (m + 1) D r = z := ⟨_, rfl⟩
  rw [hz] at hend
  have HEND := hid hend
  have HZ := hid hz
  clear hcl hfit hend hz hy
  go_wp2_with (first
    | (go_at_call 23; refine (HCL.out).mono ?_; rintro e w' ⟨rfl, hw⟩; obtain rfl := hw.symm)
    | (go_at_call 24; refine (sprove_ok B 0 m cc a (fun _ => 0) c G r N (some ⟨wb.heap.size, 0, none⟩) r D wc hm1 hm3 (by omega) HN.out HS0.out.t HS0.out.tb HG.out HS0.out.d HDD.out).mono ?_; rintro e wd ⟨b2, a2, rfl, hly, hrw⟩; have HLY := hid hly; have HRW := hid hrw; have HS1 := hid (HS0.out.next hN1 hly.below); clear hly hrw))
  have hve := verify_ok (some ⟨wc.heap.size, 0, none⟩) (some ⟨wb.heap.size, 0, none⟩) r r r (m + 1) (fun i => some ⟨a2 i, 0, none⟩) (fun _ => m + 1) (fun _ => m + 1) (rightF G m r D) D y wd (by omega) (by omega) (by omega) y0 (by omega) HLY.out.tabs.lists (fun _ _ => rfl) (fun i _ => Nums_right G m r D i) HS1.out.d HDD.out HFIT.out
  rw [HZ.out] at hve
  refine hve.mono ?_
  rintro e we ⟨rfl, hb⟩
  have HS2 := hid (HS1.out.next hN1 hb)
  have HRW2 : Hid (Row we b2 0 m (fun i => ofK (evS (kF G i) (fun j => kk (D j)) r))) := hid (HRW.out.kept hb (HRW.out.lt (by omega)))
  clear hve hb HLY HRW HS1 HS0 HCL
  go_wp2_with fail
  go_loopg [17, 76] m (fun q x i wr => ∃ (t : Nat) (p : Int), t ≤ m ∧ q = m - t ∧ x = .int .u64 p ∧ i = .int .i64 (t : Int) ∧ 0 ≤ p ∧ p ≤ 2305843009213693950 ∧ Hid (p = ofK (prK (fun i => evS (kF G i) (fun j => kk (D j)) r) t)) ∧ Hid (St w wr B m a c N G wb.heap.size r D) ∧ Hid (Row wr b2 0 m (fun i => ofK (evS (kF G i) (fun j => kk (D j)) r))))
  case atStart => exact ⟨0, 1, by omega, rfl, rfl, rfl, by omega, by omega, hid rfl, HS2, HRW2⟩
  case round =>
    clear HS2 HRW2
    obtain ⟨t, p, ht, rfl, rfl, rfl, p0, p1, HP, HS, HRW⟩ := hrel
    by_cases hlt : t < m
    · have c1 := HRW.out t hlt
      have c2 := HS.out.tb.cell t hlt
      rw [Nat.zero_add] at c1 c2
      obtain ⟨v, hv⟩ : ∃ v, ofK (evS (kF G t) (fun j => kk (D j)) r) = v := ⟨_, rfl⟩
      have hv2 : ofK (evS (fun j => kk (G t j)) (fun j => kk (D j)) r) = v := hv
      have vr := ofK_rng (evS (kF G t) (fun j => kk (D j)) r)
      have hev := eval_ok (a t) 0 r N (c t) r (some ⟨wb.heap.size, 0, none⟩) (G t) D wr (by omega) HN.out HS.out.t (HS.out.tb.row t hlt) (HG.out t hlt) HS.out.d HDD.out
      rw [hv2] at hev
      rw [hv] at vr
      dsimp only at c1
      rw [hv] at c1
      obtain ⟨v0, v1⟩ := vr
      have HMU := hid (prod_step G D r t p v HP.out hv)
      have HEV := hid hev
      clear hev hv hv2
      have t0 : (0 : Int) ≤ (t : Int) := by omega
      have t1 : (t : Int) < (m : Int) := by omega
      go_wp2_with (first
        | (go_at_call 10; refine (HEV.out).mono ?_; rintro e wf ⟨rfl, hb⟩; have HSF := hid (HS.out.next hN1 hb); have HRF := hid (HRW.out.kept hb (HRW.out.lt (by omega))); clear hb)
        | (go_at_call 17; refine (mul_any _ _ _ (by omega) (by omega) (by omega) (by omega)).mono ?_; rintro e w' ⟨rfl, hw⟩; obtain rfl := hw.symm))
      go_roundg (m - (t + 1))
      case measure => go_light; omega
      case rel => exact ⟨t + 1, _, by omega, rfl, rfl, by go_num, (mulQ_rng _ _).1, (mulQ_rng _ _).2, HMU, HSF, HRF⟩
    · have e : t = m := by omega
      subst e
      have hpz : p = z := HP.out.trans HEND.out.symm
      subst hpz
      go_wp2_with fail
      go_ret
      exact ⟨by simp, HS.out.bel⟩

set_option maxRecDepth 100000 in
theorem lifted (os : Os) (started : os.Started) (H : Type) (enc : TypeId × Value → H) :
    ReturnsInHanded {} Tryd.checked os 5 .any (fun w args => (Rows.sumCompleteSpec.pre enc Tryd.prog Tryd.f5 [] false w args ∧ laidMetH Tryd.prog laidT w) ∧ sizedMet enc Tryd.prog Tryd.f5 (OpenSpec.ofChange Rows.sumCompleteSpec) false w args) (Rows.sumCompleteSpec.post enc Tryd.prog Tryd.f5 false true false false) := by
  refine wrap_and_shaped (C := Tryd.checked) (X := fun w _ => laidMetH Tryd.prog laidT w) (fun _ _ _ hh h => h.of_heap hh) own started (by kernel_rfl) Tryd.func5
    (ChangeSpec.witness_shaped (enc := enc) (C := Tryd.checked) (os := os) (X := fun w _ => laidMetH Tryd.prog laidT w) false (World.laidAll Tryd.prog os laidT) #[.slice none 0 0, .int .i64 0, .slice none 0 0] 8 (World.laidAll_os _ _ _) (World.shaped_of_ZipB (by kernel_rfl) (by kernel_rfl)) (by kernel_rfl) (by kernel_rfl) (by kernel_rfl) (door_met os _)) ?_
  intro W base args ds gs before hval0 hW _ _ hL hsh _
  have hval : ∀ (j : Nat) t v, Tryd.f5.params[j]? = some t → args[j]? = some v → Value.okWide Tryd.prog W .any base t v := hval0
  have hW' := hW
  obtain ⟨p, q, hA0, hV, rfl, hfz, hnd⟩ := hW
  have hA : DataW.TrodAll enc Tryd.prog W 0 (fun _ => true) true Tryd.f5.params.toList args.toList ds p := hA0
  rw [Tryd.params5] at hA hval
  obtain ⟨v0, vs0, d0, ds0, p0, q0, hargs, rfl, rfl, h0, r0⟩ := trodAll_cons hA
  obtain ⟨v1, vs1, d1, ds1, p1, q1, rfl, rfl, rfl, h1, r1⟩ := trodAll_cons r0
  obtain ⟨v2, vs2, d2, ds2, p2, q2, rfl, rfl, rfl, h2, r2⟩ := trodAll_cons r1
  obtain ⟨rfl, rfl, rfl⟩ := trodAll_nil r2
  obtain rfl : args = #[v0, v1, v2] := by cases args; simp_all
  obtain ⟨rfl, rfl⟩ := trodVars_none hV
  obtain ⟨a0, len0, cap0, rfl⟩ := okWide_slice Tryd.underlying40 (hval 0 40 v0 rfl rfl)
  have k0 := h0
  have lt0 : ∀ x ∈ p0, x.block < W.heap.size := by obtain ⟨m, hm⟩ := k0; exact DataW.trod_lt m _ _ _ hm
  obtain ⟨A0, L0, C0, F0, w0⟩ : ∃ A L C F, IsLists W a0 len0 cap0 A L C F := by
    obtain ⟨fuel, hf⟩ := h0
    exact lists_of hf
  obtain ⟨a1, rfl, rfl, rfl, w1⟩ := open_int Tryd.underlying3 (hval 1 3 v1 rfl rfl) h1
  obtain ⟨a2, len2, cap2, rfl⟩ := okWide_slice Tryd.underlying22 (hval 2 22 v2 rfl rfl)
  have k2 := h2
  have lt2 : ∀ x ∈ p2, x.block < W.heap.size := by obtain ⟨m, hm⟩ := k2; exact DataW.trod_lt m _ _ _ hm
  obtain ⟨z2, w2⟩ : ∃ zs, IsRow .u64 W a2 len2 cap2 zs := by
    obtain ⟨fuel, hf⟩ := h2
    rcases open_ints Tryd.underlying22 Tryd.underlying23 (by kernel_rfl) hf with ⟨hcs, _⟩ | ⟨x, l, c, zs, hcs, _, hl, hm, hz, _, hcell, hwz⟩
    · simp [Value.cells] at hcs
      obtain ⟨rfl, rfl, rfl⟩ := hcs
      exact ⟨[], .inl ⟨rfl, rfl, rfl, rfl⟩⟩
    · simp [Value.cells] at hcs
      obtain ⟨rfl, rfl, rfl⟩ := hcs
      exact ⟨zs, .inr ⟨_, rfl, hl, hm, by simpa using hz, hcell, hwz⟩⟩
  clear hA0 hval0
  refine (walk a0 len0 cap0 A0 L0 C0 F0 a1 a2 len2 cap2 z2 W w0 w1 w2 (tab_of_laid hL)).mono fun e W' ⟨he, bel⟩ => ?_
  subst he
  exact ⟨_, rfl, _, _, _, [], _, [], hW', trodAll_mk1 (shut_bool Tryd.underlying4 _), (trodAll_cons_mk (Below.trod laidOut (by kernel_rfl) (of_decide_eq_true (by kernel_rfl)) k0 bel lt0) (trodAll_cons_mk (shut_int Tryd.underlying3 w1) (trodAll_cons_mk (Below.trod laidOut (by kernel_rfl) (of_decide_eq_true (by kernel_rfl)) k2 bel lt2) trodAll_mk0))), rfl, bel.frame _, fun h => by cases h⟩

theorem over : Rows.sumCompleteRow.holds Tryd.pinned (OpenSpec.ofChange Rows.sumCompleteSpec) :=
  OpenClaim.holds_of_wide 5 Tryd.f5 rfl rfl rfl rfl rfl rfl rfl ⟨rfl, rfl, rfl, rfl, rfl⟩ rfl rfl rfl rfl rfl (by kernel_rfl) Tryd.func5 (by kernel_rfl)
    (of_decide_eq_true (by kernel_rfl)) (by unfold Func.isWrapper; first | (rw [if_pos (by decide +kernel)]; kernel_rfl) | (rw [if_neg (by decide +kernel)]; exact ⟨rfl, rfl⟩))
    (fun os started H enc _ => lifted os started H enc)

/-- ████ THE STATEMENT ████ -/
theorem proved : Rows.SumCompleteSaid := over
end Go.Proofs.YtoogpkcpheannadDoor.sumComplete

namespace Go.Proofs.YtoogpkcpheannadDoor
/-- The given statement: the row's, tied to the program's text. -/
theorem sumComplete_holds : Rows.SumCompleteCardSaid :=
  Claim7.holds_tied_plain_at .later [] [.data, .data] true (true, "8280cba51574707be41f3ada8b67706cbb80bfa1525eaf47f61542222f0abf29") false
    sumComplete.proved (fun _ h => by cases h) (by kernel_rfl) (fun _ h => by cases h) sumComplete_row_tie rfl ⟨rfl, rfl⟩ (by kernel_rfl) rfl
    (fun f fn hf hfn => by
      obtain rfl : f = 5 := Option.some.inj ((show Tryd.prog.funcNamed "tallystick/tallykeep.SumComplete" = some 5 by kernel_rfl).symm.trans hf) |>.symm
      obtain rfl : fn = Tryd.f5 := (Option.some.inj (Tryd.func5.symm.trans hfn)).symm
      exact ⟨by kernel_rfl, fun j t ht => by
        rw [Tryd.params5] at ht
        have hm : t ∈ [40, 3, 22] := by simpa using Array.mem_of_getElem? ht
        have hall : ([40, 3, 22].all fun u => !Tryd.prog.wantsStandIn u) = true := by kernel_rfl
        exact (show Tryd.prog.wantsStandIn t = false by simpa using List.all_eq_true.1 hall t hm)⟩)
    (by kernel_rfl)
end Go.Proofs.YtoogpkcpheannadDoor
