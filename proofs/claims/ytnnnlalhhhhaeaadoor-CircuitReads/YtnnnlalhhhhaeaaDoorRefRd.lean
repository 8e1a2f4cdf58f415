/-
  Contracts of tallyref's small and Pieces; they make new rows and write nothing that was there.
-/
import Derived.Test.YtnnnlalhhhhaeaaDoorCircN
import Derived.Test.YtnnnlalhhhhaeaaDoorCircB
import Derived.Test.YtnnnlalhhhhaeaaDoorRefIn
import Derived.Test.YtnnnlalhhhhaeaaDoorCuts
import Derived.Deep.RegionLaw
import Derived.Deep.AppendLies
namespace Go.Proofs.YtnnnlalhhhhaeaaDoor
open Go.RowKit Go.PlainAid
set_option linter.unusedVariables false
attribute [local go_sem ↓] Go.wp_at_zero Go.wp_at_succ

/-- A number's text's number, or -1. -/
def smlB (s : ByteArray) : Int := (numB s).getD (-1)
/-- What the first t digits tell. -/
def valP (s : ByteArray) : Nat → Int
  | 0 => 0
  | t + 1 => valP s t * 10 + (bt s t - 48)
def digs (s : ByteArray) (t : Nat) : Prop := ∀ j, j < t → 48 ≤ bt s j ∧ bt s j ≤ 57
theorem sml_bad {s : ByteArray} {j : Nat} (hj : j < s.size) (h : ¬ (48 ≤ bt s j ∧ bt s j ≤ 57)) : smlB s = -1 := by
  have hb : (decide (48 ≤ bt s j) && decide (bt s j ≤ 57)) = false := by simp; omega
  unfold smlB numB
  by_cases h1 : s.size = 1
  · obtain rfl : j = 0 := by omega
    rw [if_pos h1, hb]; rfl
  · rw [if_neg h1]
    by_cases h2 : s.size = 2
    · rw [if_pos h2]
      have : j = 0 ∨ j = 1 := by omega
      rcases this with rfl | rfl
      · rw [hb]; rfl
      · rw [hb]; simp
    · rw [if_neg h2]; rfl
theorem sml_size {s : ByteArray} (h : ¬ (1 ≤ s.size ∧ s.size ≤ 2)) : smlB s = -1 := by
  unfold smlB numB
  rw [if_neg (by omega), if_neg (by omega)]; rfl
theorem sml_zero {s : ByteArray} (h : s.size = 2) (h0 : bt s 0 = 48) : smlB s = -1 := by
  unfold smlB numB
  rw [if_neg (by omega), if_pos h, h0]
  simp
theorem sml_one {s : ByteArray} (h : s.size = 1) (hd : digs s 1) : smlB s = valP s 1 := by
  have hb : (decide (48 ≤ bt s 0) && decide (bt s 0 ≤ 57)) = true := by simp; exact hd 0 (by omega)
  unfold smlB numB
  rw [if_pos h, hb, if_pos rfl]
  simp [valP]
theorem sml_two {s : ByteArray} (h : s.size = 2) (h0 : bt s 0 ≠ 48) (hd : digs s 2) : smlB s = valP s 2 := by
  have hb : (decide (48 ≤ bt s 0) && decide (bt s 0 ≤ 57)) = true := by simp; exact hd 0 (by omega)
  have hc : (decide (48 ≤ bt s 1) && decide (bt s 1 ≤ 57)) = true := by simp; exact hd 1 (by omega)
  have hz : (bt s 0 != 48) = true := by simp [h0]
  unfold smlB numB
  rw [if_neg (by omega), if_pos h, hb, hc, hz]
  simp [valP]
theorem valP_rng {s : ByteArray} {t : Nat} (h3 : t ≤ 3) (hd : digs s t) : 0 ≤ valP s t ∧ valP s t ≤ 999 := by
  match t, h3, hd with
  | 0, _, _ => simp [valP]
  | 1, _, hd => have := hd 0 (by omega); simp [valP]; omega
  | 2, _, hd => have := hd 0 (by omega); have := hd 1 (by omega); simp [valP]; omega
  | 3, _, hd => have := hd 0 (by omega); have := hd 1 (by omega); have := hd 2 (by omega); simp [valP]; omega
theorem smlB_rng (s : ByteArray) : -1 ≤ smlB s ∧ smlB s < 100 := by
  unfold smlB
  cases h : numB s with
  | none => simp
  | some n => have := numB_rng h; simp; omega

set_option maxHeartbeats 1000000 in
set_option maxRecDepth 100000 in
theorem rsmall_any (s : ByteArray) (w : World) (hs : s.size ≤ 5000) : Calls Tryd.prog 13 #[.string s] w fun e w' => e = .returned (.int .i64 (smlB s)) ∧ w' = w := by
  have hbt := get_bt s
  have HI := hid (fun w => rin_any (s.size : Int) 1 2 w)
  go_enter Tryd.func13, Tryd.ntmps13
  go_wp2_with fail
  go_loopg [3, 4] 4 (fun q v i wr => ∃ t : Nat, t ≤ 3 ∧ t ≤ s.size ∧ q = 4 - t ∧ v = .int .i64 (valP s t) ∧ i = .int .i64 (t : Int) ∧ wr = w ∧ Hid (digs s t))
  case atStart => exact ⟨0, by omega, by omega, rfl, rfl, rfl, rfl, hid (fun j hj => absurd hj (by omega))⟩
  case round =>
    obtain ⟨t, h3, hts, rfl, rfl, rfl, hw, HD⟩ := hrel
    obtain rfl := hw.symm
    have hv := valP_rng h3 HD.out
    obtain ⟨n, hn⟩ : ∃ n, valP s t = n := ⟨_, rfl⟩
    rw [hn] at hv ⊢
    have HNV := hid hn
    clear hn
    obtain ⟨n0, n1⟩ := hv
    have t0 : (0 : Int) ≤ (t : Int) := by omega
    by_cases hlt : t < s.size
    · have l1 : decide ((t : Int) < (s.size : Int)) = true := by simp; omega
      by_cases ht3 : t < 3
      · have l2 : decide ((t : Int) < 3) = true := by simp; omega
        have b0 : 0 ≤ bt s t := bt_nonneg s t
        have b1 : bt s t ≤ 255 := bt_le s t
        by_cases hd : 48 ≤ bt s t ∧ bt s t ≤ 57
        · have d1 : decide (bt s t < 48) = false := by simp; omega
          have d2 : decide ((57 : Int) < bt s t) = false := by simp; omega
          have HDT := hid hd
          go_wp2_with fail
          go_roundg (4 - (t + 1))
          case measure => go_light; omega
          case rel =>
            refine ⟨t + 1, by omega, by omega, rfl, ?_, by go_num, rfl, hid fun j hj => ?_⟩
            · rw [valP, HNV.out, show n * 10 + bt s t - 48 = n * 10 + (bt s t - 48) from by omega]
            · by_cases e : j < t
              · exact HD.out j e
              · rw [show j = t from by omega]; exact HDT.out
        · have HZ := hid (sml_bad hlt hd)
          by_cases hd1 : bt s t < 48
          · have d1 : decide (bt s t < 48) = true := decide_eq_true hd1
            go_wp2_with fail
            go_ret
            exact ⟨by rw [HZ.out]; rfl, rfl⟩
          · have d1 : decide (bt s t < 48) = false := decide_eq_false hd1
            have d2 : decide ((57 : Int) < bt s t) = true := by simp; omega
            go_wp2_with fail
            go_ret
            exact ⟨by rw [HZ.out]; rfl, rfl⟩
      · have l2 : decide ((t : Int) < 3) = false := by simp; omega
        have HZ := hid (sml_size (s := s) (by omega))
        have hI : (decide ((1 : Int) ≤ (s.size : Int)) && decide ((s.size : Int) ≤ 2)) = false := by simp; omega
        rw [hI] at HI
        clear hI
        go_wp2_with (go_at_call 24; refine (HI.out _).mono ?_; rintro e w' ⟨rfl, hw⟩; obtain rfl := hw.symm)
        go_ret
        exact ⟨by rw [HZ.out]; rfl, rfl⟩
    · have l1 : decide ((t : Int) < (s.size : Int)) = false := by simp; omega
      by_cases hin : 1 ≤ s.size ∧ s.size ≤ 2
      · have hI : (decide ((1 : Int) ≤ (s.size : Int)) && decide ((s.size : Int) ≤ 2)) = true := by simp; omega
        rw [hI] at HI
        clear hI
        by_cases h2 : s.size = 2
        · have e2 : ((s.size : Int) == 2) = true := by rw [h2]; rfl
          have z0 : 0 < s.size := by omega
          obtain rfl : t = 2 := by omega
          by_cases hz : bt s 0 = 48
          · have e3 : (bt s 0 == 48) = true := by simp [hz]
            have HZ := hid (sml_zero h2 hz)
            clear hz h2
            go_wp2_with (go_at_call 24; refine (HI.out _).mono ?_; rintro e w' ⟨rfl, hw⟩; obtain rfl := hw.symm)
            go_ret
            exact ⟨by rw [HZ.out]; rfl, rfl⟩
          · have e3 : (bt s 0 == 48) = false := by simp [hz]
            have HZ := hid (sml_two h2 hz HD.out)
            clear h2
            go_wp2_with (go_at_call 24; refine (HI.out _).mono ?_; rintro e w' ⟨rfl, hw⟩; obtain rfl := hw.symm)
            go_ret
            exact ⟨by rw [HZ.out, HNV.out]; rfl, rfl⟩
        · have e2 : ((s.size : Int) == 2) = false := beq_eq_false_iff_ne.2 (by omega)
          obtain rfl : t = 1 := by omega
          have HZ := hid (sml_one (by omega) HD.out)
          go_wp2_with (go_at_call 24; refine (HI.out _).mono ?_; rintro e w' ⟨rfl, hw⟩; obtain rfl := hw.symm)
          go_ret
          exact ⟨by rw [HZ.out, HNV.out]; rfl, rfl⟩
      · have hI : (decide ((1 : Int) ≤ (s.size : Int)) && decide ((s.size : Int) ≤ 2)) = false := by simp; omega
        rw [hI] at HI
        clear hI
        have HZ := hid (sml_size hin)
        go_wp2_with (go_at_call 24; refine (HI.out _).mono ?_; rintro e w' ⟨rfl, hw⟩; obtain rfl := hw.symm)
        go_ret
        exact ⟨by rw [HZ.out]; rfl, rfl⟩

theorem Tryd.infoS : (Tryd.prog.info? 9).map (fun i => (i.zero, i.size, i.bytes)) = some (some (.string ByteArray.empty), 1, 16) := by kernel_rfl
/-- v is a list of texts of the call's own. -/
def OwnS (w : World) (base : Nat) (v : Value) (ps : List ByteArray) : Prop := w.ownsRow base 9 1 v ps.length (ps.map Value.string)
theorem snews (w : World) (x : ByteArray) (t : TypeId) : ∀ j u, [Value.string x][j]? = some u → (w.alloc (.cells #[.string x] t)).cell? ((⟨w.heap.size, 0, none⟩ : Addr).add j) = some u := by
  intro j u hj
  match j, hj with
  | 0, hj => simp at hj; subst hj; simp [Addr.add]
theorem sone (x : ByteArray) : ∀ u ∈ [Value.string x], u.oneCell' = true := by intro u hu; simp at hu; subst hu; rfl
theorem byte_bt {s : ByteArray} {i : Nat} (h : i < s.size) : ∃ d : UInt8, s.data.toList[i]? = some d ∧ bt s i = (d.toNat : Int) ∧ (s.extract i (i + 1)).data.toList = [d] := by
  have hl : i < s.data.toList.length := by obtain ⟨⟨l⟩⟩ := s; exact h
  refine ⟨s.data.toList[i], by simp, bt_at (by simp), ?_⟩
  rw [Lib.extract_data, show i + 1 - i = 1 from by omega, List.drop_eq_getElem_cons hl]
  rfl
theorem size_list (s : ByteArray) : s.size = s.data.toList.length := by obtain ⟨⟨l⟩⟩ := s; rfl
theorem list_inj {a b : ByteArray} (h : a.data.toList = b.data.toList) : a = b := by
  obtain ⟨⟨x⟩⟩ := a
  obtain ⟨⟨y⟩⟩ := b
  simp at h
  rw [h]

end Go.Proofs.YtnnnlalhhhhaeaaDoor
