/-
  A contract of tallyref's Pieces, for every text; it makes new rows and writes nothing that was there.
-/
import Derived.Test.YtnnnlalhhhhaeaaDoorRefRd
import Derived.Laws.Concat
namespace Go.Proofs.YtnnnlalhhhhaeaaDoor
open Go.RowKit Go.PlainAid
set_option linter.unusedVariables false
attribute [local go_sem ↓] Go.wp_at_zero Go.wp_at_succ

theorem OwnS.kept {w w' : World} {base : Nat} {v : Value} {ps : List ByteArray} (h : OwnS w base v ps) (hb : Below w.heap.size w w') : OwnS w' base v ps := owns_kept h hb
theorem last_of {α : Type} {l : List α} (h : 0 < l.length) : ∃ q p, l = q ++ [p] := ⟨_, _, (List.dropLast_concat_getLast (l := l) (fun e => by rw [e] at h; simp at h)).symm⟩
theorem map_last {q : List ByteArray} {p : ByteArray} {b : UInt8} {l : List UInt8} (h : (q ++ [p]).map (·.data.toList) = piecesL b l) : piecesL b l = q.map (·.data.toList) ++ [p.data.toList] := by rw [← h]; simp
theorem u8_ne {d b : UInt8} (h : d ≠ b) : (d.toNat : Int) ≠ (b.toNat : Int) := fun e => h (by have h1 := byte_nat d; have h2 := byte_nat b; rw [← h1, ← h2]; congr 1; omega)

set_option maxHeartbeats 2000000 in
set_option maxRecDepth 100000 in
theorem rpieces_upto (K : Nat) (s : ByteArray) (b : UInt8) (w : World) (hs : s.size ≤ K) (hK : K ≤ 2000000) :
    Calls Tryd.prog 12 #[.string s, .int .u8 (b.toNat : Int)] w fun e w' => ∃ v ps, e = .returned v ∧ OwnS w' w.heap.size v ps ∧ ps.map (·.data.toList) = piecesL b s.data.toList ∧ (∀ p ∈ ps, p.size ≤ K) ∧ ps.length ≤ s.size + 1 ∧ Below w.heap.size w w' := by
  obtain ⟨i0, hi, hz0, hz1, hz2⟩ := info_parts Tryd.infoS
  have HI := hid (And.intro hi (And.intro hz0 (And.intro hz1 hz2)))
  clear hi hz0 hz1 hz2
  have hbt := get_bt s
  go_enter Tryd.func12, Tryd.ntmps12
  go_wp2_with fail
  have HO0 : Hid (OwnS (w.alloc (.cells #[.string ⟨#[]⟩] 9)) w.heap.size (.slice (some ⟨w.heap.size, 0, none⟩) 1 1) [⟨#[]⟩]) := hid (World.ownsRow_lit w #[.string ⟨#[]⟩] 1 (Nat.le_refl _) (by unfold maxLen; omega) rfl)
  have HB0 := hid ((Below.refl w.heap.size w).alloc (Nat.le_refl _) (.cells #[.string ⟨#[]⟩] 9))
  obtain ⟨B, hB⟩ : ∃ B, w.heap.size = B := ⟨_, rfl⟩
  rw [hB] at HO0 HB0 ⊢
  have HBE := hid hB
  clear hB
  generalize w.alloc (.cells #[.string ⟨#[]⟩] 9) = W0 at HO0 HB0 ⊢
  go_loopg [5, 6] s.size (fun q v i wr => ∃ (t : Nat) (u : Value) (ps : List ByteArray), t ≤ s.size ∧ q = s.size - t ∧ v = u ∧ i = .int .i64 (t : Int) ∧ Hid (OwnS wr B u ps) ∧ Hid (ps.map (·.data.toList) = piecesL b (s.data.toList.take t)) ∧ Hid (∀ p ∈ ps, p.size ≤ t) ∧ 1 ≤ ps.length ∧ ps.length ≤ t + 1 ∧ Hid (Below B w wr))
  case atStart => exact ⟨0, _, [⟨#[]⟩], by omega, rfl, rfl, rfl, HO0, hid (by simp [piecesL]), hid (by intro p hp; simp at hp; subst hp; exact Nat.le_refl _), by simp, by simp, HB0⟩
  case round =>
    clear HO0 HB0
    obtain ⟨t, u, ps, ht, rfl, hu, rfl, HO, HPC, HPS, l1, l2, HB⟩ := hrel
    obtain rfl := hu.symm
    have hsz : B ≤ wr.heap.size := by have h1 := HB.out.size; have h2 := HBE.out; omega
    by_cases hlt : t < s.size
    · obtain ⟨d, hd1, hd2, hd3⟩ := byte_bt hlt
      have HTK : Hid (s.data.toList.take (t + 1) = s.data.toList.take t ++ [d]) := hid (by rw [List.take_add_one, hd1]; rfl)
      have HD3 := hid hd3
      have t0 : (0 : Int) ≤ (t : Int) := by omega
      have t1 : (t : Int) < (s.size : Int) := by omega
      have bx : ((s[t]'hlt).toNat : Int) = (d.toNat : Int) := by rw [hbt, hd2]
      clear hd1 hd2 hd3
      obtain ⟨n, hn⟩ : ∃ n, ps.length = n := ⟨_, rfl⟩
      by_cases hdb : d = b
      · subst hdb
        have e1 : (((d.toNat : Int)) == (d.toNat : Int)) = true := by simp
        have HOn : Hid (wr.ownsRow B 9 1 u n (ps.map Value.string)) := hid (by have := HO.out; unfold OwnS at this; rw [hn] at this; exact this)
        rw [hn] at l1 l2
        have HN := hid hn
        clear hn hbt
        go_wp2_with (at_builtin; refine wpList_append_lies _ rfl _ _ 37 rfl B 9 i0 (.string ByteArray.empty) 1 16 Tryd.underlying37 HI.out.1 HI.out.2.1 HI.out.2.2.1 HI.out.2.2.2 rfl (by decide) _ _ _ rfl (World.ownsRow.alloc HOn.out _) ⟨wr.heap.size, 0, none⟩ 1 1 [.string ⟨#[]⟩] rfl rfl (snews wr _ _) (sone _) (by omega) (by unfold maxLen; omega) (by omega) (by simp; omega) (wr.heap.size + 1) (by simp) ?_)
        intro g2 c2 w6 hown2 hgrow2 hat2 hlt2
        have HO6 : Hid (OwnS w6 B (.slice (some ⟨g2, 0, none⟩) (n + 1) c2) (ps ++ [⟨#[]⟩])) := hid (by unfold OwnS; rw [List.length_append, HN.out, List.map_append]; exact hown2)
        have HB6 : Hid (Below B w w6) := hid ((HB.out.alloc hsz _).grown hgrow2 (by simp; omega) (by intro k hk; exact (HOn.out.lt k hk).1))
        clear hown2 hgrow2 hat2 hlt2
        go_wp2_with fail
        go_roundg (s.size - (t + 1))
        case measure => go_light; omega
        case rel =>
          refine ⟨t + 1, _, ps ++ [⟨#[]⟩], by omega, rfl, rfl, by go_num, HO6, hid ?_, hid ?_, by simp, by rw [List.length_append, HN.out]; simp; omega, HB6⟩
          · obtain ⟨q, p, rfl⟩ := last_of (l := ps) (by rw [HN.out]; omega)
            rw [HTK.out, piecesL_snoc d d _ (map_last HPC.out), if_pos rfl]
            simp
          · intro p hp
            rcases List.mem_append.1 hp with hp | hp
            · have := HPS.out p hp; omega
            · simp at hp; subst hp; exact Nat.zero_le _
      · have e1 : ((d.toNat : Int) == (b.toNat : Int)) = false := beq_eq_false_iff_ne.2 (u8_ne hdb)
        obtain ⟨q, p, hqp⟩ := last_of (l := ps) (by omega)
        obtain ⟨k, hk⟩ : ∃ k, q.length = k := ⟨_, rfl⟩
        obtain rfl : n = k + 1 := by rw [← hn, hqp, List.length_append, hk]; rfl
        obtain ⟨g, cap, hform, hg1, hg2⟩ := World.ownsRow.form HO.out (by omega)
        rw [hn] at hform
        subst hform
        have ho := HO.out
        unfold OwnS at ho
        rw [hn] at ho
        have cl : wr.cell? ⟨g, k, none⟩ = some (.string p) := by rw [ho.cellAt k (by omega), hqp, ← hk]; simp
        have fl := ho.frozenAt k
        have psz : p.size ≤ t := HPS.out p (by rw [hqp]; simp)
        have s1 := fun w => run_string_add_sum (P := Tryd.prog) w p (s.extract t (t + 1)) (by rw [ByteArray.size_extract]; omega)
        have HN := hid hn
        have HQ := hid hqp
        have HK := hid hk
        have HOn := hid ho
        rw [hn] at l1 l2
        clear hn hqp hk ho hbt
        have k0 : (0 : Int) ≤ (k : Int) := by omega
        have k1 : (k : Int) < (k : Int) + 1 := by omega
        have wk : IntKind.i64.wrap (k : Int) = (k : Int) := IntWalk.i64_in _ (by omega)
        have wt : IntKind.i64.wrap ((t : Int) + 1) = (t : Int) + 1 := IntWalk.i64_in _ (by omega)
        have t2 : (t : Int) + 1 ≤ (s.size : Int) := by omega
        have hsl := fun wx => run_slice_string (P := Tryd.prog) wx 9 s .i64 .i64 (t : Int) ((t : Int) + 1) Tryd.underlying9 (by omega) (by omega) (by omega)
        rw [show ((t : Int) + 1).toNat = t + 1 from by omega, show ((t : Int)).toNat = t from by omega] at hsl
        go_wp2_with fail
        go_region_with (first | fail)
        all_goals (go_wp2_with fail)
        all_goals (go_roundg (s.size - (t + 1)))
        all_goals first | (go_light; omega) | skip
        all_goals
          have hst := HOn.out.stored k (.string (p ++ s.extract t (t + 1)))
          have hset : (ps.map Value.string).set k (.string (p ++ s.extract t (t + 1))) = (q ++ [p ++ s.extract t (t + 1)]).map Value.string := by
            rw [HQ.out, List.map_append, List.map_append, List.set_append_right _ _ (by rw [List.length_map, HK.out]; exact Nat.le_refl _), List.length_map, HK.out, Nat.sub_self]
            rfl
          rw [hset] at hst
          refine ⟨t + 1, _, q ++ [p ++ s.extract t (t + 1)], by omega, rfl, rfl, by go_num, hid ?_, hid ?_, hid ?_, by simp, by rw [List.length_append, HK.out]; simp; omega, hid ?_⟩
          · unfold OwnS
            rw [List.length_append, HK.out]
            exact hst.1
          · have h := HPC.out
            rw [HQ.out] at h
            rw [HTK.out, piecesL_snoc b d _ (map_last h), if_neg hdb, List.map_append, List.map_cons, List.map_nil, ByteArray.data_append, Array.toList_append, HD3.out]
          · intro u hu
            rcases List.mem_append.1 hu with hu | hu
            · have := HPS.out u (by rw [HQ.out]; exact List.mem_append_left _ hu); omega
            · simp at hu
              subst hu
              rw [ByteArray.size_append, ByteArray.size_extract]
              omega
          · exact (HB.out.setCell hg1 _).drew
    · have e : t = s.size := by omega
      subst e
      go_wp2_with fail
      go_ret
      refine ⟨_, rfl, ps, by rw [HBE.out]; exact HO.out, ?_, fun p hp => by have := HPS.out p hp; omega, l2, by rw [HBE.out]; exact HB.out⟩
      rw [HPC.out, size_list, List.take_length]

theorem rpieces_any (s : ByteArray) (b : UInt8) (w : World) (hs : s.size ≤ 4096) :
    Calls Tryd.prog 12 #[.string s, .int .u8 (b.toNat : Int)] w fun e w' => ∃ v ps, e = .returned v ∧ OwnS w' w.heap.size v ps ∧ ps.map (·.data.toList) = piecesL b s.data.toList ∧ (∀ p ∈ ps, p.size ≤ 4096) ∧ ps.length ≤ s.size + 1 ∧ Below w.heap.size w w' := rpieces_upto 4096 s b w hs (by omega)

end Go.Proofs.YtnnnlalhhhhaeaaDoor
