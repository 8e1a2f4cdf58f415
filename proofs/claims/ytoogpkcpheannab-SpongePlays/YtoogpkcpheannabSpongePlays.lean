/-
  Whatever word and whatever list of lists of numbers of 64 bits is handed in, the law SpongePlays answers true and writes nothing that was there: a sponge (package sponge) does, call by call, what the document's own answer (package tallyref) does, and so does Pair; no condition.
-/
import Derived.Test.YtoogpkcpheannabRows
import Derived.Test.YtoogpkcpheannabListsOpen
import Derived.WalkKit
import Derived.Test.YtoogpkcpheannabRefSpong3
import Derived.Test.YtoogpkcpheannabSpg2
import Derived.ProofKit
import Derived.OpenShut
import Derived.ShutString
import Derived.ChangeOld
import Derived.Below
namespace Go.Proofs.Ytoogpkcpheannab.spongePlays
open Go.ChangeShapes Go.WideShapes Go.ChangeAt Go.RowKit
open Go.ChangeMaps (open_string shut_string)
set_option linter.unusedVariables false

theorem own : ownKnob Try.prog.godebug = none := by kernel_rfl
theorem laidOut : laidOutB Try.prog = true := by kernel_rfl

/-- WHAT THE WALK IS TOLD OF A SLICE OF INTEGERS THAT CAME IN: it is nil; or it leads to a row of 'cap' cells, the numbers 'zs' (the first 'len' are its elements, the rest its spare room), each fitting its kind. -/
def IsRow (k : IntKind) (w : World) (a : Option Addr) (len cap : Nat) (zs : List Int) : Prop :=
  (a = none ∧ len = 0 ∧ cap = 0 ∧ zs = []) ∨
  ∃ x, a = some x ∧ len ≤ cap ∧ cap ≤ maxLen ∧ zs.length = cap ∧ (∀ i, i < zs.length → w.cell? (x.add i) = some (.int k (zs.getD i 0))) ∧ ∀ n ∈ zs, (Lit.int k n).wf = true

attribute [local go_sem ↓] Go.wp_at_zero Go.wp_at_succ
set_option maxHeartbeats 400000 in
theorem p_many (a1 : Option Addr) (m cap1 : Nat) (word : Int) (w : World) (h : 10 < m) :
    Calls Try.prog 4 #[.int .u64 word, .slice a1 m cap1] w fun e w' => e = .returned (.bool true) ∧ Below w.heap.size w w' := by
  have h1 : (10 : Int) < (m : Int) := by omega
  go_enter Try.func4, Try.ntmps4
  go_wp2_with fail
  go_ret
  exact ⟨rfl, Below.refl _ _⟩

set_option maxHeartbeats 4000000 in
set_option maxRecDepth 100000 in
theorem p_play (a1 : Option Addr) (m cap1 : Nat) (A : Nat → Option Addr) (L C : Nat → Nat) (F : Nat → Nat → Int) (word : Int) (w : World) (hm : m ≤ 10) (h0 : 0 ≤ word) (h1 : word ≤ 18446744073709551615) (hl : LRow w a1 m A L C F) (hF : ∀ i, i < m → Nums (F i)) :
    Calls Try.prog 4 #[.int .u64 word, .slice a1 m cap1] w fun e w' => e = .returned (.bool true) ∧ Below w.heap.size w w' := by
  have m1 : ¬ (10 : Int) < (m : Int) := by omega
  have HL := hid hl
  have HFF := hid hF
  have HN1 := hid (new_any word w h0 h1)
  have HN2 := hid (fun W => rnew_any word W h0 h1)
  have HP1 := hid (fun W => pair_any word 5 W h0 h1 (by omega) (by omega))
  have HP2 := hid (fun W => rpair_any word 5 W h0 h1 (by omega) (by omega))
  clear hl hF
  go_enter Try.func4, Try.ntmps4
  go_wp2_with fail
  refine (HN1.out).mono ?_
  rintro e w1 ⟨rfl, hb1, hlt1, hr1, hf1⟩
  go_wp2_with fail
  refine (HN2.out w1).mono ?_
  rintro e w2 ⟨rfl, hb2, hlt2, hr2, hf2⟩
  have hp : Play w w2 w.heap.size w1.heap.size (mixed (newK word)) (mixed (newK word)) := ⟨hb1.trans (hb2.mono hb1.size), hr1.kept hb2 hlt1, hf1.kept hb2 hlt1, hr2, hf2⟩
  obtain ⟨sb, hsb⟩ : ∃ x, w.heap.size = x := ⟨_, rfl⟩
  obtain ⟨tb, htb⟩ : ∃ x, w1.heap.size = x := ⟨_, rfl⟩
  have hsl : w.heap.size ≤ sb := by omega
  have htl : w.heap.size ≤ tb := by omega
  have hne : tb ≠ sb := by omega
  have HP : Hid (∃ g, Play w w2 sb tb g g) := hid ⟨_, by rw [← htb, ← hsb]; exact hp⟩
  rw [htb]
  rw [show (Value.pointer (some ⟨w.heap.size, 0, none⟩)) = Value.pointer (some ⟨sb, 0, none⟩) from by rw [hsb]]
  clear hp hb1 hb2 hr1 hf1 hr2 hf2 hlt1 hlt2 htb HN1 HN2
  have HSL := hid hsl
  have HTL := hid htl
  have HSB := hid hsb
  clear hsl htl hsb
  go_wp2_with fail
  go_loopg [21, 8, 9] m (fun q i x e wr => ∃ k : Nat, k ≤ m ∧ q = m - k ∧ i = .int .i64 (k : Int) ∧ Hid (∃ g, Play w wr sb tb g g))
  case atStart => exact ⟨0, by omega, rfl, rfl, HP⟩
  case round =>
    clear HP
    obtain ⟨k, hk, rfl, rfl, HP⟩ := hrel
    obtain ⟨g, hp⟩ := HP.out
    have HPL := hid hp
    clear HP hp
    by_cases hlt : k < m
    · obtain ⟨B, o, rfl, hr⟩ := HL.out.kept HPL.out.below (by omega)
      have c1 := (hr k hlt).1
      have HRO := hid (hr k hlt).2
      obtain ⟨B0, o0, e0, hr0⟩ := HL.out (by omega)
      have HNE : Hid (0 < L k → ∀ c o, A k = some ⟨c, o, none⟩ → c < w.heap.size) := hid (fun hp c o e => by
        obtain ⟨b', o', e', h'⟩ := (hr0 k hlt).2 hp
        rw [e] at e'; injection e' with e'; injection e' with e1 e2
        subst e1
        exact h'.lt hp)
      have HNU := hid (HFF.out k hlt)
      clear hr hr0 e0
      have k0 : (0 : Int) ≤ (k : Int) := by omega
      have k1 : (k : Int) < (m : Int) := by omega
      generalize A k = ak at c1 HRO HNE ⊢
      generalize L k = nk at c1 HRO HNE ⊢
      generalize C k = ck at c1 ⊢
      generalize F k = fk at HRO HNU ⊢
      by_cases hbig : 1000 < nk
      · have b1 : (1000 : Int) < (nk : Int) := by omega
        have HTK := hid (fun W => take_large sb nk ck ak W hbig)
        clear HRO HNE HNU hbig
        go_wp2_with fail
        refine (HTK.out _).mono ?_
        rintro e w3 ⟨rfl, hw⟩
        obtain rfl := hw.symm
        go_wp2_with fail
        refine (give_any sb g _ HPL.out.sr HPL.out.sf).mono ?_
        rintro e w4 ⟨rfl, ht, hr, hf⟩
        have HP4 := hid (HPL.out.s HSL.out hne ht hr hf)
        clear ht hr hf
        go_wp2_with fail
        refine (rgive_any tb g _ HP4.out.tr HP4.out.tf).mono ?_
        rintro e w5 ⟨rfl, ht, hr, hf⟩
        have HP5 := hid (HP4.out.t HTL.out hne ht hr hf)
        clear ht hr hf
        go_wp2_with fail
        go_roundg (m - (k + 1))
        case measure => go_light; omega
        case rel => exact ⟨k + 1, by omega, rfl, by go_num, hid ⟨_, HP5.out⟩⟩
      · have b1 : ¬ (1000 : Int) < (nk : Int) := by omega
        have HTK := hid (take_any sb g ak nk ck fk wr HPL.out.sr HPL.out.sf (by omega) HRO.out HNU.out (fun hp c o e => by have := HNE.out hp c o e; have := HSL.out; omega))
        clear hbig
        go_wp2_with fail
        refine (HTK.out).mono ?_
        rintro e w3 ⟨rfl, ht, hr, hf⟩
        have HP3 := hid (HPL.out.s HSL.out hne ht hr hf)
        have HRO3 : Hid (PRow w3 ak nk fk) := hid (fun hp => by
          obtain ⟨b', o', e', h'⟩ := HRO.out hp
          exact ⟨b', o', e', h'.turned ht (by have := HNE.out hp b' o' e'; have := HSL.out; omega)⟩)
        have HTR := hid (rtake_any tb g ak nk ck fk w3 HP3.out.tr HP3.out.tf (by omega) HRO3.out HNU.out (fun hp c o e => by have := HNE.out hp c o e; have := HTL.out; omega))
        clear ht hr hf
        go_wp2_with fail
        refine (HTR.out).mono ?_
        rintro e w4 ⟨rfl, ht, hr, hf⟩
        have HP4 := hid (HP3.out.t HTL.out hne ht hr hf)
        clear ht hr hf HTR HTK
        go_wp2_with fail
        refine (give_any sb _ _ HP4.out.sr HP4.out.sf).mono ?_
        rintro e w5 ⟨rfl, ht, hr, hf⟩
        have HP5 := hid (HP4.out.s HSL.out hne ht hr hf)
        clear ht hr hf
        go_wp2_with fail
        refine (rgive_any tb _ _ HP5.out.tr HP5.out.tf).mono ?_
        rintro e w6 ⟨rfl, ht, hr, hf⟩
        have HP6 := hid (HP5.out.t HTL.out hne ht hr hf)
        clear ht hr hf
        go_wp2_with fail
        go_roundg (m - (k + 1))
        case measure => go_light; omega
        case rel => exact ⟨k + 1, by omega, rfl, by go_num, hid ⟨_, HP6.out⟩⟩
    · have e : k = m := by omega
      subst e
      go_wp2_with fail
      refine (give_any sb g _ HPL.out.sr HPL.out.sf).mono ?_
      rintro e w4 ⟨rfl, ht, hr, hf⟩
      have HP4 := hid (HPL.out.s HSL.out hne ht hr hf)
      clear ht hr hf
      go_wp2_with fail
      refine (rgive_any tb g _ HP4.out.tr HP4.out.tf).mono ?_
      rintro e w5 ⟨rfl, ht, hr, hf⟩
      have HP5 := hid (HP4.out.t HTL.out hne ht hr hf)
      clear ht hr hf
      obtain ⟨y, hy⟩ : ∃ y, ofK (g 1) = y := ⟨_, rfl⟩
      rw [hy]
      clear hy
      go_wp2_with fail
      refine (HP1.out _).mono ?_
      rintro e w6 ⟨rfl, hb6⟩
      go_wp2_with fail
      refine (HP2.out _).mono ?_
      rintro e w7 ⟨rfl, hb7⟩
      have HB7 : Hid (Below w.heap.size w w7) := hid ((HP5.out.below.trans (hb6.mono HP5.out.below.size)).trans (hb7.mono (Nat.le_trans HP5.out.below.size hb6.size)))
      clear hb6 hb7
      go_wp2_with fail
      go_ret
      exact ⟨by simp, HB7.out⟩

set_option maxHeartbeats 4000000 in
set_option maxRecDepth 100000 in
theorem walk (a0 : Int) (a1 : Option Addr) (len1 cap1 : Nat) (A1 : Nat → Option Addr) (L1 C1 : Nat → Nat) (F1 : Nat → Nat → Int) (w : World) (w0 : (Lit.int .u64 a0).wf = true) (w1 : IsLists w a1 len1 cap1 A1 L1 C1 F1) :
    Calls Try.prog 4 #[.int .u64 a0, .slice a1 len1 cap1] w fun e w' => e = .returned (.bool true) ∧ Below w.heap.size w w' := by
  obtain ⟨c0, c1⟩ := u64_of_wf w0
  obtain ⟨hl, hmax, hF, _⟩ := w1
  by_cases hm : 10 < len1
  · exact p_many a1 len1 cap1 a0 w hm
  · exact p_play a1 len1 cap1 A1 L1 C1 F1 a0 w (by omega) c0 c1 hl fun i hi => (hF i hi).1

set_option maxRecDepth 100000 in
theorem lifted (os : Os) (started : os.Started) (H : Type) (enc : TypeId × Value → H) :
    ReturnsInHanded {} Try.checked os 4 .any (Rows.spongePlaysSpec.pre6 enc Try.prog Try.f4 Rows.spongePlaysRow.domain false) (Rows.spongePlaysSpec.post enc Try.prog Try.f4 false true false false) := by
  refine returnsInHanded_of_change (C := Try.checked) own started (by kernel_rfl) Try.func4
    (ChangeSpec.witness6 (enc := enc) (C := Try.checked) false ⟨#[], #[.int .u64 0, .slice none 0 0], []⟩ 8 (by kernel_rfl) (by kernel_rfl) (by kernel_rfl) (by kernel_rfl)) ?_
  intro W base args ds gs before hval0 hW hcnd _
  have hval : ∀ (j : Nat) t v, Try.f4.params[j]? = some t → args[j]? = some v → Value.okWide Try.prog W .any base t v := hval0
  have hW' := hW
  obtain ⟨p, q, hA0, hV, rfl, hfz, hnd⟩ := hW
  have hA : DataW.TrodAll enc Try.prog W 0 (fun _ => true) true Try.f4.params.toList args.toList ds p := hA0
  rw [Try.params4] at hA hval
  obtain ⟨v0, vs0, d0, ds0, p0, q0, hargs, rfl, rfl, h0, r0⟩ := trodAll_cons hA
  obtain ⟨v1, vs1, d1, ds1, p1, q1, rfl, rfl, rfl, h1, r1⟩ := trodAll_cons r0
  obtain ⟨rfl, rfl, rfl⟩ := trodAll_nil r1
  obtain rfl : args = #[v0, v1] := by cases args; simp_all
  obtain ⟨rfl, rfl⟩ := trodVars_none hV
  obtain ⟨a0, rfl, rfl, rfl, w0⟩ := open_int Try.underlying22 (hval 0 22 v0 rfl rfl) h0
  obtain ⟨a1, len1, cap1, rfl⟩ := okWide_slice Try.underlying23 (hval 1 23 v1 rfl rfl)
  have k1 := h1
  have lt1 : ∀ x ∈ p1, x.block < W.heap.size := by obtain ⟨m, hm⟩ := k1; exact DataW.trod_lt m _ _ _ hm
  obtain ⟨A1, L1, C1, F1, w1⟩ : ∃ A L C F, IsLists W a1 len1 cap1 A L C F := by
    obtain ⟨fuel, hf⟩ := h1
    exact lists_of hf
  clear hA0 hval0
  refine (walk a0 a1 len1 cap1 A1 L1 C1 F1 W w0 w1).mono fun e W' ⟨he, bel⟩ => ?_
  subst he
  exact ⟨_, rfl, _, _, _, [], _, [], hW', trodAll_mk1 (shut_bool Try.underlying4 _), (trodAll_cons_mk (shut_int Try.underlying22 w0) (trodAll_cons_mk (Below.trod laidOut (by kernel_rfl) (of_decide_eq_true (by kernel_rfl)) k1 bel lt1) trodAll_mk0)), rfl, bel.frame _, fun h => by cases h⟩

theorem over : Rows.spongePlaysRow.holds Try.pinned (OpenSpec.ofChange Rows.spongePlaysSpec) :=
  OpenClaim.holds_of_wide 4 Try.f4 rfl rfl rfl rfl rfl rfl rfl ⟨rfl, rfl, rfl, rfl, rfl⟩ rfl rfl rfl rfl rfl (by kernel_rfl) Try.func4 (by kernel_rfl)
    (of_decide_eq_true (by kernel_rfl)) (by unfold Func.isWrapper; first | (rw [if_pos (by decide +kernel)]; kernel_rfl) | (rw [if_neg (by decide +kernel)]; exact ⟨rfl, rfl⟩))
    (fun os started H enc _ => lifted os started H enc)

/-- ████ THE STATEMENT ████ -/
theorem proved : Rows.SpongePlaysSaid := over
end Go.Proofs.Ytoogpkcpheannab.spongePlays

namespace Go.Proofs.Ytoogpkcpheannab
/-- The given statement. -/
theorem spongePlays_holds : Rows.SpongePlaysSaid := spongePlays.proved
end Go.Proofs.Ytoogpkcpheannab
