/-
  Contracts of package gkr's Verify, of every circuit, every proof and every draws; it makes new rows and writes nothing that was there.
-/
import Derived.Test.YtaiaillaihlhpafDoorGk9
import Derived.Test.YtaiaillaihlhpafDoorGk8
import Derived.Test.YtaiaillaihlhpafDoorGk7
import Derived.Test.YtaiaillaihlhpafDoorMleEv
namespace Go.Proofs.YtaiaillaihlhpafDoor
open Go.RowKit
set_option linter.unusedVariables false
attribute [local go_sem ↓] Go.wp_at_zero Go.wp_at_succ

set_option maxHeartbeats 2000000 in
set_option maxRecDepth 100000 in
theorem vf_form (c : CQ) (g : Int) (ao : Option Addr) (n cap : Nat) (ap : Option Addr) (np cp : Nat) (ai ao2 ad : Option Addr) (ni ci no co nd cd : Nat) (x : Int) (w : World) (hx0 : x ≠ 0)
    (hf : ∀ W, Below w.heap.size w W → Calls Tryd.prog 20 #[.agg #[.int .i64 g, .slice ao n cap], .agg #[.slice ap np cp]] W fun e w' => e = .returned (.int .i64 x) ∧ Below W.heap.size W w') :
    Calls Tryd.prog 21 #[.agg #[.int .i64 g, .slice ao n cap], .slice ai ni ci, .slice ao2 no co, .agg #[.slice ap np cp], .slice ad nd cd] w fun e w' => e = .returned (.tuple #[.bool false, .int .i64 x]) ∧ Below w.heap.size w w' := by
  have HS0 := hid (StQ.start w g (.slice ao n cap) (.slice ap np cp) 24 51)
  have HF := hid hf
  have e1 : (x != 0) = true := by simp [hx0]
  clear hf hx0
  go_enter Tryd.func21, Tryd.ntmps21
  go_wp2_with fail
  refine (HF.out _ HS0.out.bel).mono ?_
  rintro e w1 ⟨rfl, hb⟩
  have HB := hid (HS0.out.bel.trans (hb.mono HS0.out.bel.size))
  clear hb
  go_wp2_with fail
  go_ret2
  exact ⟨rfl, HB.out⟩
theorem form_is {c : CQ} {g : Int} {b off n cap : Nat} {A : Nat → Option Addr} {C : Nat → Nat} {ap : Option Addr} {np cp : Nat} {p : PQ} {m : PM} {w : World} {x : Int} (hg : c.log = g) (hn : c.layers.length = n) (hr : CRow w (some ⟨b, off, none⟩) c.layers A C) (hc : c.right) (hp : p.n = np) (hpr : PfRow w ap p m) (hx : formE c p x) :
    ∀ W, Below w.heap.size w W → Calls Tryd.prog 20 #[.agg #[.int .i64 g, .slice (some ⟨b, off, none⟩) n cap], .agg #[.slice ap np cp]] W fun e w' => e = .returned (.int .i64 x) ∧ Below W.heap.size W w' := fun W h =>
  (form_right c g b off n cap A C ap np cp p m W hg hn (hr.kept h) hc hp (hpr.kept h)).mono fun e w' ⟨y, he, hy, hb⟩ => by
    refine ⟨?_, hb⟩
    have : y = x := by
      rcases hy with ⟨h1, h2⟩ | ⟨_, h1, h2⟩ | ⟨_, h1, h2⟩
      · exact absurd (checkE_one h1 (checkE_zero.2 hc)) h2
      · rcases hx with ⟨g1, g2⟩ | ⟨_, g1, g2⟩ | ⟨_, g1, g2⟩
        · exact absurd (checkE_one g1 (checkE_zero.2 hc)) g2
        · omega
        · exact absurd h1 g1
      · rcases hx with ⟨g1, g2⟩ | ⟨_, g1, g2⟩ | ⟨_, g1, g2⟩
        · exact absurd (checkE_one g1 (checkE_zero.2 hc)) g2
        · exact absurd g1 h1
        · omega
    rw [he, this]

set_option maxHeartbeats 2000000 in
set_option maxRecDepth 100000 in
theorem vf_ends (c : CQ) (g : Int) (b off n cap : Nat) (A : Nat → Option Addr) (C : Nat → Nat) (ap : Option Addr) (np cp : Nat) (p : PQ) (m : PM) (ai ao2 ad : Option Addr) (ni ci no co nd cd : Nat) (w : World) (hg : c.log = g) (hn : c.layers.length = n) (hr : CRow w (some ⟨b, off, none⟩) c.layers A C) (hc : c.right) (hp : p.n = np) (hpr : PfRow w ap p m) (hs : shapedQ c p) (hno : ¬ endsQ c ni no) :
    Calls Tryd.prog 21 #[.agg #[.int .i64 g, .slice (some ⟨b, off, none⟩) n cap], .slice ai ni ci, .slice ao2 no co, .agg #[.slice ap np cp], .slice ad nd cd] w fun e w' => e = .returned (.tuple #[.bool false, .int .i64 4]) ∧ Below w.heap.size w w' := by
  have HS0 := hid (StQ.start w g (.slice (some ⟨b, off, none⟩) n cap) (.slice ap np cp) 24 51)
  have HF := hid (form_is (cap := cap) (cp := cp) (x := 0) hg hn hr hc hp hpr (.inr (.inl ⟨hc, hs, rfl⟩)))
  have HE : Hid (∀ W, Below w.heap.size w W → Calls Tryd.prog 38 #[.agg #[.int .i64 g, .slice (some ⟨b, off, none⟩) n cap], .slice ai ni ci, .slice ao2 no co] W fun e w' => e = .returned (.bool false) ∧ Below W.heap.size W w') := hid (fun W h => (hasEnds_any c g b off n cap A C ai ao2 ni ci no co W hg hn (hr.kept h) hc).mono fun e w' ⟨r, he, hrr, hb⟩ => ⟨by rw [he]; cases r with | false => rfl | true => exact absurd (hrr.1 rfl) hno, hb⟩)
  clear hg hn hr hc hp hpr hs hno
  go_enter Tryd.func21, Tryd.ntmps21
  go_wp2_with fail
  obtain ⟨X, hX⟩ : ∃ X, w.heap.size = X := ⟨_, rfl⟩
  rw [hX] at HS0
  rw [hX]
  clear hX
  generalize (w.alloc (.cells #[.int .i64 g, .slice (some ⟨b, off, none⟩) n cap] 24)).alloc (.cells #[.slice ap np cp] 51) = W0 at HS0 ⊢
  refine (HF.out _ HS0.out.bel).mono ?_
  rintro e w1 ⟨rfl, hb⟩
  have HS1 := hid (HS0.out.next hb)
  clear hb HS0
  obtain ⟨z0, z1, zl⟩ := HS1.out.box
  go_wp2_with fail
  refine (HE.out _ HS1.out.bel).mono ?_
  rintro e w2 ⟨rfl, hb⟩
  have HS2 := hid (HS1.out.next hb)
  clear hb HS1 z0 z1 zl
  go_wp2_with fail
  go_ret2
  exact ⟨rfl, HS2.out.bel⟩

set_option maxHeartbeats 2000000 in
set_option maxRecDepth 100000 in
theorem vf_draws (c : CQ) (g : Int) (b off n cap : Nat) (A : Nat → Option Addr) (C : Nat → Nat) (ap : Option Addr) (np cp : Nat) (p : PQ) (m : PM) (ai ao2 ad : Option Addr) (ni ci no co nd cd : Nat) (w : World) (hg : c.log = g) (hn : c.layers.length = n) (hr : CRow w (some ⟨b, off, none⟩) c.layers A C) (hc : c.right) (hp : p.n = np) (hpr : PfRow w ap p m) (hs : shapedQ c p) (hen : endsQ c ni no) (hnd : nd ≠ needQ c) :
    Calls Tryd.prog 21 #[.agg #[.int .i64 g, .slice (some ⟨b, off, none⟩) n cap], .slice ai ni ci, .slice ao2 no co, .agg #[.slice ap np cp], .slice ad nd cd] w fun e w' => e = .returned (.tuple #[.bool false, .int .i64 1]) ∧ Below w.heap.size w w' := by
  have HS0 := hid (StQ.start w g (.slice (some ⟨b, off, none⟩) n cap) (.slice ap np cp) 24 51)
  have HF := hid (form_is (cap := cap) (cp := cp) (x := 0) hg hn hr hc hp hpr (.inr (.inl ⟨hc, hs, rfl⟩)))
  have HE : Hid (∀ W, Below w.heap.size w W → Calls Tryd.prog 38 #[.agg #[.int .i64 g, .slice (some ⟨b, off, none⟩) n cap], .slice ai ni ci, .slice ao2 no co] W fun e w' => e = .returned (.bool true) ∧ Below W.heap.size W w') := hid (fun W h => (hasEnds_any c g b off n cap A C ai ao2 ni ci no co W hg hn (hr.kept h) hc).mono fun e w' ⟨r, he, hrr, hb⟩ => ⟨by rw [he, hrr.2 hen], hb⟩)
  have HD := hid (fun W (h : Below w.heap.size w W) => cdraws_any c g b off n cap A C W hg hn (hr.kept h) hc)
  generalize needQ c = q at HD hnd
  have e1 : ((nd : Int) != (q : Int)) = true := by simp; omega
  clear hg hn hr hc hp hpr hs hen hnd
  go_enter Tryd.func21, Tryd.ntmps21
  go_wp2_with fail
  obtain ⟨X, hX⟩ : ∃ X, w.heap.size = X := ⟨_, rfl⟩
  rw [hX] at HS0
  rw [hX]
  clear hX
  generalize (w.alloc (.cells #[.int .i64 g, .slice (some ⟨b, off, none⟩) n cap] 24)).alloc (.cells #[.slice ap np cp] 51) = W0 at HS0 ⊢
  refine (HF.out _ HS0.out.bel).mono ?_
  rintro e w1 ⟨rfl, hb⟩
  have HS1 := hid (HS0.out.next hb)
  clear hb HS0
  obtain ⟨z0, z1, zl⟩ := HS1.out.box
  go_wp2_with fail
  refine (HE.out _ HS1.out.bel).mono ?_
  rintro e w2 ⟨rfl, hb⟩
  have HS2 := hid (HS1.out.next hb)
  clear hb HS1 z0 z1 zl
  obtain ⟨z0, z1, zl⟩ := HS2.out.box
  go_wp2_with fail
  refine (HD.out _ HS2.out.bel).mono ?_
  rintro e w3 ⟨rfl, hb⟩
  have HS3 := hid (HS2.out.next hb)
  clear hb HS2 z0 z1 zl
  go_wp2_with fail
  go_ret2
  exact ⟨rfl, HS3.out.bel⟩

end Go.Proofs.YtaiaillaihlhpafDoor
