/-
  Contracts of slices.EqualFunc at lists of lists, and of tallylaw's same, where both lists have the same lists; nothing that was there is written.
-/
import Derived.Test.YtoogpkcpheannabDoorEqual
import Derived.Test.YtoogpkcpheannabDoorLists
namespace Go.Proofs.YtoogpkcpheannabDoor
open Go.RowKit
set_option linter.unusedVariables false
attribute [local go_sem ↓] Go.wp_at_zero Go.wp_at_succ

set_option maxHeartbeats 1000000 in
theorem same1_ok (a0 a1 : Option Addr) (n c0 c1 : Nat) (f g : Nat → Int) (w : World) (hn : n ≤ 100000) (p0 : PRow w a0 n f) (p1 : PRow w a1 n g) (e : ∀ j, j < n → f j = g j) :
    Calls Tryd.prog 43 #[.slice a0 n c0, .slice a1 n c1] w fun e w' => e = .returned (.bool true) ∧ Below w.heap.size w w' := by
  have HE := hid (equal_ok a0 a1 n c0 c1 f g w hn p0 p1 e)
  clear p0 p1 e
  go_enter Tryd.func43, Tryd.ntmps43
  go_wp2_with (go_at_call 14; refine (HE.out).mono ?_; rintro e w1 ⟨rfl, hb⟩; have HB := hid hb; clear hb)
  go_ret
  exact ⟨rfl, HB.out⟩

set_option maxHeartbeats 4000000 in
set_option maxRecDepth 100000 in
theorem equalF_ok (a0 a1 : Option Addr) (m c0 c1 : Nat) (A A2 : Nat → Option Addr) (L C C2 : Nat → Nat) (F G : Nat → Nat → Int) (w : World) (hm : m ≤ 1000) (h0 : LRow w a0 m A L C F) (h1 : LRow w a1 m A2 L C2 G) (hL : ∀ i, i < m → L i ≤ 100000) (e : ∀ i j, i < m → j < L i → F i j = G i j) :
    Calls Tryd.prog 42 #[.slice a0 m c0, .slice a1 m c1, .func (.func 43) #[] #[]] w fun e w' => e = .returned (.bool true) ∧ Below w.heap.size w w' := by
  have H0 := hid h0
  have H1 := hid h1
  have HL := hid hL
  have HE := hid e
  clear h0 h1 hL e
  go_enter Tryd.func42, Tryd.ntmps42
  go_wp2_with fail
  go_loopg [17] m (fun q i wr => ∃ k : Nat, k ≤ m ∧ q = m - k ∧ i = .int .i64 (k : Int) ∧ Hid (LRow wr a0 m A L C F) ∧ Hid (LRow wr a1 m A2 L C2 G) ∧ Hid (Below w.heap.size w wr))
  case atStart => exact ⟨0, by omega, rfl, rfl, H0, H1, hid (Below.refl _ _)⟩
  case round =>
    clear H0 H1
    obtain ⟨k, hk, rfl, rfl, H0, H1, HB⟩ := hrel
    by_cases hlt : k < m
    · obtain ⟨b1, o1, rfl, r1⟩ := H0.out (by omega)
      obtain ⟨b2, o2, rfl, r2⟩ := H1.out (by omega)
      have c1 := (r1 k hlt).1
      have c2 := (r2 k hlt).1
      have HS := hid (same1_ok (A k) (A2 k) (L k) (C k) (C2 k) (F k) (G k) wr (HL.out k hlt) (r1 k hlt).2 (r2 k hlt).2 (fun j hj => HE.out k j hlt hj))
      clear r1 r2
      have k0 : (0 : Int) ≤ (k : Int) := by omega
      have k1 : (k : Int) < (m : Int) := by omega
      go_wp2_with (go_at_call 43; refine (HS.out).mono ?_; rintro e w1 ⟨rfl, hb⟩; have HB1 := hid hb; clear hb)
      go_roundg (m - (k + 1))
      case measure => go_light; omega
      case rel => exact ⟨k + 1, by omega, rfl, by go_num, hid (H0.out.kept HB1.out), hid (H1.out.kept HB1.out), hid (HB.out.trans (HB1.out.mono HB.out.size))⟩
    · have e : k = m := by omega
      subst e
      go_wp2_with fail
      go_ret
      exact ⟨rfl, HB.out⟩

set_option maxHeartbeats 1000000 in
theorem same_ok (a0 a1 : Option Addr) (m c0 c1 : Nat) (A A2 : Nat → Option Addr) (L C C2 : Nat → Nat) (F G : Nat → Nat → Int) (w : World) (hm : m ≤ 1000) (h0 : LRow w a0 m A L C F) (h1 : LRow w a1 m A2 L C2 G) (hL : ∀ i, i < m → L i ≤ 100000) (e : ∀ i j, i < m → j < L i → F i j = G i j) :
    Calls Tryd.prog 21 #[.slice a0 m c0, .slice a1 m c1] w fun e w' => e = .returned (.bool true) ∧ Below w.heap.size w w' := by
  have HE := hid (equalF_ok a0 a1 m c0 c1 A A2 L C C2 F G w hm h0 h1 hL e)
  clear h0 h1 hL e
  go_enter Tryd.func21, Tryd.ntmps21
  go_wp2_with (go_at_call 42; refine (HE.out).mono ?_; rintro e w1 ⟨rfl, hb⟩; have HB := hid hb; clear hb)
  go_ret
  exact ⟨rfl, HB.out⟩

end Go.Proofs.YtoogpkcpheannabDoor
