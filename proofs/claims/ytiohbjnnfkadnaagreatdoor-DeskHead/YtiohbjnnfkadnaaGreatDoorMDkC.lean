/-
  Several texts in one: DkG, DkH, DkI, DkJ, DkK; each opens with what it holds.
-/
import Derived.Test.YtiohbjnnfkadnaaGreatDoorMDkB
/-
  Plain: a desk, text by text; how long its answers are at most.
-/
namespace Go.Proofs.YtiohbjnnfkadnaaGreatDoor
set_option linter.unusedVariables false

theorem linesQ_err : ∀ (l : List (List UInt8)) (i : Nat) (c : CQ) (n : Nat), linesQ i c l = .error n → n ≤ i + l.length
  | [], i, c, n, h => by rw [linesQ] at h; cases h
  | x :: r, i, c, n, h => by
    rw [linesQ] at h
    cases e : (lineQ x).bind (stepQ i c) with
    | some c' =>
      rw [e] at h
      have := linesQ_err r (i + 1) c' n h
      rw [List.length_cons]
      omega
    | none =>
      rw [e] at h
      cases h
      rw [List.length_cons]
      omega
theorem pieces_many (b : UInt8) : ∀ s : List UInt8, (piecesL b s).length ≤ s.length + 1
  | [] => by simp [piecesL]
  | x :: r => by
    have ih := pieces_many b r
    rw [piecesL]
    by_cases e : x = b
    · rw [if_pos e, List.length_cons, List.length_cons]; omega
    · rw [if_neg e]
      cases h : piecesL b r with
      | nil => exact absurd h (piecesL_ne b r)
      | cons q t => rw [h] at ih; simp only [List.length_cons] at ih ⊢; omega
theorem textQ_err {s : List UInt8} {n : Nat} (h : textQ s = .error n) : n ≤ s.length + 1 := by
  have hp := pieces_many 10 s
  have hd : (piecesL 10 s).dropLast.length ≤ (piecesL 10 s).length := by rw [List.length_dropLast]; omega
  unfold textQ at h
  dsimp only at h
  split at h
  · have := linesQ_err _ _ _ _ h
    omega
  · split at h
    · cases h; exact hp
    · rename_i m e
      cases h
      have := linesQ_err _ _ _ _ e
      omega
theorem parseE_at {s : List UInt8} {c : CQ} {a : Nat} {e : Int} (h : parseE s c a e) : a ≤ 4097 := by
  rcases h with ⟨_, _, h, _⟩ | ⟨h1, h, _, _⟩ | ⟨_, d, _, _, h, _⟩
  · omega
  · have := textQ_err h; omega
  · omega
theorem parseF_rng (s : List UInt8) : (parseF s).2.2.toNat ≤ 5 ∧ (parseF s).2.1 ≤ 4097 ∧ ((parseF s).2.2 = 0 → (parseF s).1.right ∨ (parseF s).1 = ⟨0, []⟩) := by
  by_cases h : ∃ x : CQ × Nat × Int, parseE s x.1 x.2.1 x.2.2
  · obtain ⟨⟨c, a, e⟩, hx⟩ := h
    have hx : parseE s c a e := hx
    rw [parseF_eq hx]
    have h1 := parseE_rng hx
    refine ⟨show e.toNat ≤ 5 by omega, parseE_at hx, fun h0 => .inl ?_⟩
    have h0 : e = 0 := h0
    rw [h0] at hx
    exact (parseE_ok hx).1
  · unfold parseF
    rw [dif_neg h]
    exact ⟨by decide, by decide, fun _ => .inr rfl⟩
theorem wrongD_len {k : Nat} (h : k ≤ 1000) : (wrongD k).length ≤ 26 := by
  unfold wrongD
  have := dec_len (m := k) (by omega)
  simp
  omega
theorem saidD_one {x : Nat} (h : x ≤ 18446744073709551615) : (saidD [x]).length ≤ 20 := dec_len h
theorem said_int {x : Int} (h : x ≤ 2305843009213693950) : (saidD [x.toNat]).length ≤ 20 := saidD_one (by omega)
theorem outD_len16 (s : List UInt8) (a : List Nat) (h : (parseF s).2.2 = 0) : (saidD (outD (parseF s).1 a)).length ≤ 400 := by
  have h1 := join_len (outD (parseF s).1 a) (outD_rng _ _)
  rw [outD_len] at h1
  rcases (parseF_rng s).2.2 h with h2 | h2
  · have := (lenQ_rng h2 _ (Nat.le_refl (parseF s).1.layers.length)).2
    omega
  · rw [h2] at h1 ⊢
    have : lenQ ⟨0, []⟩ (⟨0, []⟩ : CQ).layers.length ≤ 16 := by decide
    omega
theorem netD_len {t v : List UInt8} {a b : List Nat} (ht : t.length ≤ 4096) : (netD t v a b).length ≤ 4200 := by
  obtain ⟨h1, h2, h3⟩ := parseF_rng t
  have hw := wrongD_len (k := (parseF t).2.2.toNat) (by omega)
  have hd := dec_len (m := (parseF t).2.1) (by omega)
  have h4 := wrongD_len (k := 4) (by omega)
  unfold netD
  split
  · rw [List.length_append, List.length_cons]; omega
  · rename_i h0
    have h0 : (parseF t).2.2 = 0 := Classical.not_not.1 h0
    have ho := outD_len16 t a h0
    split
    · rw [List.length_append]; simp; omega
    · split
      · omega
      · split
        · omega
        · split
          · omega
          · split
            · simp
            · simp
theorem ite_le {c : Prop} [Decidable c] {x y : List UInt8} {M : Nat} (h1 : x.length ≤ M) (h2 : y.length ≤ M) : (if c then x else y).length ≤ M := by
  by_cases h : c
  · rw [if_pos h]; exact h1
  · rw [if_neg h]; exact h2
theorem le_big {x : List UInt8} {k : Nat} (h : x.length ≤ k) (hk : k ≤ 4200) : x.length ≤ 4200 := Nat.le_trans h hk
theorem ansN_len {t v : List UInt8} {a b : List Nat} (ht : t.length ≤ 4096) : (ansN t v a b).length ≤ 4200 := by
  have h1 := le_big (wrongD_len (k := 1) (by omega)) (by omega)
  have h3 := le_big (wrongD_len (k := 3) (by omega)) (by omega)
  have h4 := le_big (wrongD_len (k := 4) (by omega)) (by omega)
  have hn := @netD_len t v a b ht
  have ha := le_big (said_int (addQ_rng (fOf a 0) (fOf a 1)).2) (by omega)
  have hs := le_big (said_int (subQ_rng (fOf a 0) (fOf a 1)).2) (by omega)
  have hm := le_big (said_int (mulQ_rng (fOf a 0) (fOf a 1)).2) (by omega)
  have hp := le_big (said_int (powQ_rng (fOf a 0) (fOf a 1).toNat).2) (by omega)
  have hi := le_big (said_int (invQ_rng (fOf a 0)).2) (by omega)
  have hk : ∀ z : K, (saidD [(ofK z).toNat]).length ≤ 4200 := fun z => le_big (saidD_one (by have := ofK_u64 z; omega)) (by omega)
  have hr : ∀ n, (saidD [(rootQ n (fOf a)).toNat]).length ≤ 4200 := fun n => le_big (said_int (rootQ_rng n (fOf a)).2) (by omega)
  have hsum : (match varsF a.length with | none => wrongD 4 | some _ => saidD [(ofK (sK (fun j => kk (fOf a j)) a.length)).toNat]).length ≤ 4200 := by
    cases varsF a.length with
    | none => exact h4
    | some n => exact hk _
  have hroot : (match varsF a.length with | none => wrongD 4 | some n => saidD [(rootQ n (fOf a)).toNat]).length ≤ 4200 := by
    cases varsF a.length with
    | none => exact h4
    | some n => exact hr n
  have hev : (match varsF a.length with | none => wrongD 4 | some n => if b.length = n then saidD [(ofK (evS (fun j => kk (fOf a j)) (fun j => kk (fOf b j)) n)).toNat] else wrongD 1).length ≤ 4200 := by
    cases varsF a.length with
    | none => exact h4
    | some n => exact ite_le (hk _) h1
  unfold ansN
  exact ite_le (ite_le ha h3) (ite_le (ite_le hs h3) (ite_le (ite_le hm h3) (ite_le (ite_le hp h3) (ite_le (ite_le (ite_le h1 hi) h3) (ite_le (ite_le hn h3) (ite_le hsum (ite_le hroot (ite_le hev (ite_le hn (ite_le hn h3))))))))))
theorem ansD_len {t v : List UInt8} {r : List (List UInt8)} (ht : t.length ≤ 4096) : (ansD t v r).length ≤ 4200 := by
  have h3 := wrongD_len (k := 3) (by omega)
  unfold ansD
  split
  · omega
  · exact ansN_len ht
theorem stepR_len {t : List UInt8} (ht : t.length ≤ 4096) (ws : List (List UInt8)) : (stepR t ws).1.length ≤ 4096 ∧ (stepR t ws).2.length ≤ 5000 := by
  have h2 := wrongD_len (k := 2) (by omega)
  have h3 := wrongD_len (k := 3) (by omega)
  cases ws with
  | nil => exact ⟨ht, by simp [stepR]⟩
  | cons v r =>
    have ha := @ansD_len t v r ht
    rw [stepR]
    split
    · exact ⟨ht, by simp⟩
    · split
      · split
        · exact ⟨ht, by rw [List.length_append]; simp; omega⟩
        · refine ⟨?_, by simp⟩
          simp only [List.length_append, List.length_cons, List.length_nil]
          omega
      · split
        · split
          · exact ⟨by simp, by simp⟩
          · exact ⟨ht, by rw [List.length_append]; simp; omega⟩
        · exact ⟨ht, by rw [List.length_append]; simp; omega⟩

/-- Line by line. -/
noncomputable def foldR (st : List UInt8 × List UInt8) (ls : List (List UInt8)) : List UInt8 × List UInt8 := ls.foldl (fun s l => ((stepR s.1 (wordsD l)).1, s.2 ++ (stepR s.1 (wordsD l)).2)) st
noncomputable def deskR (s : List UInt8) : List UInt8 := if 65536 < s.length ∨ 200 < (linesD s).length then wrongD 2 ++ [10] else (foldR ([], []) (linesD s)).2
theorem foldR_snoc (st : List UInt8 × List UInt8) (ls : List (List UInt8)) (l : List UInt8) : foldR st (ls ++ [l]) = ((stepR (foldR st ls).1 (wordsD l)).1, (foldR st ls).2 ++ (stepR (foldR st ls).1 (wordsD l)).2) := by
  unfold foldR
  rw [List.foldl_append]
  rfl
theorem foldR_len (ls : List (List UInt8)) : (foldR ([], []) ls).1.length ≤ 4096 ∧ (foldR ([], []) ls).2.length ≤ 5000 * ls.length := by
  have h : ∀ (n : Nat) (l : List (List UInt8)), l.length = n → (foldR ([], []) l).1.length ≤ 4096 ∧ (foldR ([], []) l).2.length ≤ 5000 * l.length := by
    intro n
    induction n with
    | zero =>
      intro l hl
      obtain rfl := List.length_eq_zero_iff.1 hl
      exact ⟨by simp [foldR], by simp [foldR]⟩
    | succ n ih =>
      intro l hl
      obtain ⟨q, x, rfl⟩ : ∃ q x, l = q ++ [x] := ⟨l.dropLast, l.getLast (fun e => by rw [e] at hl; simp at hl), (List.dropLast_concat_getLast _).symm⟩
      have hq : q.length = n := by simp at hl; exact hl
      obtain ⟨h1, h2⟩ := ih q hq
      obtain ⟨h3, h4⟩ := stepR_len h1 (wordsD x)
      rw [foldR_snoc]
      refine ⟨h3, ?_⟩
      simp only [List.length_append, List.length_cons, List.length_nil]
      omega
  exact h _ ls rfl

end Go.Proofs.YtiohbjnnfkadnaaGreatDoor

/-
  Contract of desk.Run: it answers what the plain desk does; it makes new blocks and writes nothing that was there.
-/
namespace Go.Proofs.YtiohbjnnfkadnaaGreatDoor
open Go.RowKit Go.PlainAid
set_option linter.unusedVariables false
attribute [local go_sem ↓] Go.wp_at_zero Go.wp_at_succ

theorem builder_kept {T e : TypeId} {B b : Nat} {bs : List Value} {w w' : World} (h : Lib.IsBuilderF T e B b bs w) (hk : ∀ k, B ≤ k → k < w.heap.size → w'.heap[k]? = w.heap[k]?) : Lib.IsBuilderF T e B b bs w' := by
  have one : ∀ p, Lib.BuilderAtF T e B b p bs w → Lib.BuilderAtF T e B b p bs w' := fun p hp => by
    have hlt := hp.lt
    obtain ⟨h1, v, h2, h3, h4⟩ := hp
    refine ⟨h1, v, (hk b h1 hlt).trans h2, ⟨h3.1, ?_⟩, h4⟩
    rcases h3.2 with h5 | ⟨g, cap, cur, fz, h5, h6, h7, h8⟩
    · exact .inl h5
    · have hg : g < w.heap.size := by
        rcases Nat.lt_or_ge g w.heap.size with h9 | h9
        · exact h9
        · rw [Array.getElem?_eq_none h9] at h7; cases h7
      exact .inr ⟨g, cap, cur, fz, h5, h6, (hk g h6 hg).trans h7, h8⟩
  rcases h with h | h
  · exact .inl (one _ h)
  · exact .inr (one _ h)
theorem builder_new (w : World) (T e : TypeId) : Lib.IsBuilderF T e w.heap.size w.heap.size [] (w.alloc (.cells #[.pointer none, .slice none 0 0] T)) :=
  .inl ⟨Nat.le_refl _, .slice none 0 0, heap_alloc_new w _, ⟨rfl, .inl ⟨rfl, rfl⟩⟩, by simp [Value.ownBlock]⟩
theorem dsk_new (w : World) : Dsk (w.alloc (.cells #[.string ⟨#[]⟩] 31)) w.heap.size ⟨#[]⟩ := heap_alloc_new w _
theorem pre35 (v : List UInt8) : Lib.hasPrefix v [35] = decide (v.head? = some 35) := by
  unfold Lib.hasPrefix
  cases v with
  | nil => rfl
  | cons a r =>
    simp [List.isPrefixOf]
    by_cases h : a = 35
    · simp [h]
    · simp [h, Ne.symm h]
/-- All that holds of the world from line to line. -/
structure RnS (w1 wr : World) (D : Nat) (s : ByteArray) (o : List UInt8) : Prop where
  bel : Below D w1 wr
  dsk : Dsk wr D s
  bld : Lib.IsBuilderF 35 5 (D + 1) (D + 1) (Lib.byteCells o) wr
  siz : D + 1 ≤ wr.heap.size
theorem RnS.bld2 {w1 wr : World} {D : Nat} {s : ByteArray} {o : List UInt8} (h : RnS w1 wr D s o) : D + 1 < wr.heap.size := by
  rcases h.bld with h | h
  · exact h.lt
  · exact h.lt
theorem RnS.kept {w1 wr w2 : World} {D : Nat} {s : ByteArray} {o : List UInt8} (h : RnS w1 wr D s o) (hb : Below wr.heap.size wr w2) : RnS w1 w2 D s o :=
  ⟨h.bel.trans (hb.mono (by have := h.siz; omega)), h.dsk.kept hb, builder_kept h.bld (fun k _ hk => hb.block k hk), Nat.le_trans h.siz hb.size⟩
theorem RnS.ans {w1 wr w2 : World} {D : Nat} {s s' : ByteArray} {o : List UInt8} (h : RnS w1 wr D s o) (hd : Dsk w2 D s') (hk : DkK D wr w2) : RnS w1 w2 D s' o :=
  ⟨h.bel.trans hk.below, hd, builder_kept h.bld (fun k h1 h2 => hk.rest k (by omega) h2), Nat.le_trans h.siz hk.below.size⟩
theorem RnS.write {w1 wr w2 : World} {D : Nat} {s : ByteArray} {o : List UInt8} (h : RnS w1 wr D s o) {x : ByteArray} (hb : Below (D + 1) wr w2) (hbl : Lib.BuilderAtF 35 5 (D + 1) (D + 1) (.pointer (some ⟨D + 1, 0, none⟩)) (Lib.byteCells o ++ Lib.strCells x) w2) : RnS w1 w2 D s (o ++ x.data.toList) :=
  ⟨h.bel.trans (hb.mono (by omega)), (hb.block D (by omega)).trans h.dsk, .inr (by rw [Lib.byteCells_append]; exact hbl), Nat.le_trans h.siz hb.size⟩

/-- What Run tells. -/
def rnOut (s : ByteArray) (w : World) (e : Ending) (w' : World) : Prop := e = .returned (.string (sB (deskR s.data.toList))) ∧ Below w.heap.size w w'
theorem big_out : (sB (wrongD 2) ++ (⟨#[10]⟩ : ByteArray)) = sB (wrongD 2 ++ [10]) := by rw [← sB_add]; rfl

set_option maxHeartbeats 8000000 in
set_option maxRecDepth 100000 in
theorem desk_run (s : ByteArray) (w : World) (ht : DW w) (hmax : s.size ≤ maxLen) :
    Calls Tryz.prog 6 #[.string s] w fun e w' => rnOut s w e w' := by
  have HT := hid ht
  have HW2 := hid (fun W (h : Below w.heap.size w W) => tellE_any 2 W (by omega) (ht.kept h))
  have l2 : (sB (wrongD 2)).size ≤ 26 := by rw [sB_size]; exact wrongD_len (by omega)
  have HE2 := hid big_out
  generalize sB (wrongD 2) = T2 at HW2 l2 HE2
  have hls : s.data.toList.length = s.size := (size_list s).symm
  have HLS := hid hls
  by_cases hs : 65536 < s.size
  · have HR : Hid (T2 ++ (⟨#[10]⟩ : ByteArray) = sB (deskR s.data.toList)) := hid (by
      rw [HE2.out]
      unfold deskR
      rw [if_pos (.inl (by rw [hls]; exact hs))])
    have k1 : (65536 : Int) < (s.size : Int) := by omega
    clear ht hls
    go_enter Tryz.func6, Tryz.ntmps6
    go_wp2_with fail
    refine (HW2.out _ (Below.refl _ _)).mono ?_
    rintro e w1 ⟨rfl, hb⟩
    have HB := hid hb
    clear hb
    go_wp2_with fail
    go_ret
    exact ⟨by rw [← HR.out]; rfl, HB.out⟩
  · have k1 : ¬ (65536 : Int) < (s.size : Int) := by omega
    have HLN := hid (tlines_any s w (by omega) ht)
    clear ht hls
    go_enter Tryz.func6, Tryz.ntmps6
    go_wp2_with fail
    refine (HLN.out).mono ?_
    rintro e w1 ⟨ao, cap, ls, n, rfl, hn, hcap, hcs, hsl, hld, hsz, hb1⟩
    have HN := hid hn
    have HLD := hid hld
    have HSL := hid hsl
    have HSZ := hid hsz
    have HB1 := hid hb1
    have HLL : Hid ((linesD s.data.toList).length = n) := hid (by rw [← hld, List.length_map, hn])
    clear hn hld hsl hsz hb1 HLN
    by_cases hn2 : 200 < n
    · have HR : Hid (T2 ++ (⟨#[10]⟩ : ByteArray) = sB (deskR s.data.toList)) := hid (by
        rw [HE2.out]
        unfold deskR
        rw [if_pos (.inr (by rw [HLL.out]; exact hn2))])
      have k2 : (200 : Int) < (n : Int) := by omega
      go_wp2_with fail
      refine (HW2.out _ HB1.out).mono ?_
      rintro e w2 ⟨rfl, hb⟩
      have HB := hid (HB1.out.trans (hb.mono HB1.out.size))
      clear hb
      go_wp2_with fail
      go_ret
      exact ⟨by rw [← HR.out]; rfl, HB.out⟩
    · have HR : Hid (deskR s.data.toList = (foldR ([], []) (linesD s.data.toList)).2) := hid (by
        unfold deskR
        rw [if_neg (by rw [HLS.out, HLL.out]; omega)])
      have k2 : ¬ (200 : Int) < (n : Int) := by omega
      obtain ⟨D, hD⟩ : ∃ D, w1.heap.size = D := ⟨_, rfl⟩
      have hal1 := dbel w1 (.cells #[.string ⟨#[]⟩] 31)
      have hs1 : (w1.alloc (.cells #[.string ⟨#[]⟩] 31)).heap.size = D + 1 := by simp [hD]
      have hal2 := dbel (w1.alloc (.cells #[.string ⟨#[]⟩] 31)) (.cells #[.pointer none, .slice none 0 0] 35)
      have HS0 : Hid (RnS w1 ((w1.alloc (.cells #[.string ⟨#[]⟩] 31)).alloc (.cells #[.pointer none, .slice none 0 0] 35)) D ⟨#[]⟩ []) := hid (by
        have hb := builder_new (w1.alloc (.cells #[.string ⟨#[]⟩] 31)) 35 5
        rw [hs1] at hb
        have hd := dsk_new w1
        rw [hD] at hd
        refine ⟨?_, hd.kept hal2, hb, by simp [hD]⟩
        have h3 := hal1.trans (hal2.mono hal1.size)
        rw [hD] at h3
        exact h3)
      have HDE := hid hD
      clear hal1 hal2 hs1 hD HW2 HE2 l2
      go_wp2_with fail
      rw [HDE.out]
      go_loopg [23] n (fun q i wr => ∃ (t : Nat) (sx : ByteArray), t ≤ n ∧ q = n - t ∧ i = .int .i64 (t : Int) ∧ Hid (RnS w1 wr D sx (foldR ([], []) ((ls.take t).map (·.data.toList))).2) ∧ Hid (sx.data.toList = (foldR ([], []) ((ls.take t).map (·.data.toList))).1))
      case atStart => exact ⟨0, ⟨#[]⟩, by omega, rfl, rfl, hid (by simpa [foldR] using HS0.out), hid (by simp [foldR])⟩
      case round =>
        obtain ⟨t, sx, htn, rfl, rfl, HS, HX⟩ := hrel
        have hbw : Below w1.heap.size w1 wr := by rw [HDE.out]; exact HS.out.bel
        have HBW := hid hbw
        have HDW := hid ((HT.out.kept HB1.out).kept hbw)
        by_cases hlt : t < n
        · obtain ⟨lb, lo, rfl, hr⟩ := (HSL.out.kept hbw) (by rw [HN.out]; omega)
          have c1 := hr t (by rw [HN.out]; exact hlt)
          have HTK := hid (take_snoc (ps := ls) (t := t) (by rw [HN.out]; exact hlt))
          have HMEM := hid (sF_mem (ps := ls) (t := t) (by rw [HN.out]; exact hlt))
          obtain ⟨p, hp⟩ : ∃ p, sF ls t = p := ⟨_, rfl⟩
          rw [hp] at c1 HTK HMEM
          have hps : p.size ≤ 65536 := by have := HSZ.out p HMEM.out; omega
          obtain ⟨o, ho⟩ : ∃ o, (foldR ([], []) ((ls.take t).map (·.data.toList))).2 = o := ⟨_, rfl⟩
          have hfl := foldR_len ((ls.take t).map (·.data.toList))
          rw [← HX.out, List.length_map, List.length_take, HN.out] at hfl
          have hol : o.length ≤ 1000000 := by have := hfl.2; rw [ho] at this; omega
          have hsx : sx.size ≤ 4096 := by rw [size_list]; exact hfl.1
          have HNX : Hid (foldR ([], []) ((ls.take (t + 1)).map (·.data.toList)) = ((stepR sx.data.toList (wordsD p.data.toList)).1, o ++ (stepR sx.data.toList (wordsD p.data.toList)).2)) := hid (by
            rw [HTK.out, List.map_append, List.map_cons, List.map_nil, foldR_snoc, ho, HX.out])
          rw [ho] at HS
          have HWD := hid (twords_any p wr (by omega) HDW.out)
          have t0 : (0 : Int) ≤ (t : Int) := by omega
          have t1 : (t : Int) < (n : Int) := by omega
          clear hr hp hbw ho hfl HTK
          go_wp2_with fail
          refine (HWD.out).mono ?_
          rintro e wa ⟨wo, m, wc, ps, rfl, hm, hmc, hwc, hws, hwd, hwz, hmz, hfr, hb2⟩
          have HSA := hid (HS.out.kept hb2)
          have HDA := hid (HDW.out.kept hb2)
          have HWS := hid hws
          have HWE := hid hwd
          have HWZ := hid hwz
          have HM := hid hm
          clear hb2 hws hwd hwz hm c1 HWD
          by_cases hm0 : m = 0
          · subst hm0
            have HST : Hid (stepR sx.data.toList (wordsD p.data.toList) = (sx.data.toList, [])) := hid (by rw [← HWE.out, List.length_eq_zero_iff.1 HM.out]; rfl)
            go_wp2_with fail
            go_roundg (n - (t + 1))
            case measure => go_light; omega
            case rel => exact ⟨t + 1, sx, by omega, rfl, by go_num, hid (by rw [HNX.out, HST.out, List.append_nil]; exact HSA.out), hid (by rw [HNX.out, HST.out])⟩
          · obtain ⟨v, r, hps2⟩ : ∃ v r, ps = v :: r := by
              cases ps with
              | nil => exact absurd HM.out.symm hm0
              | cons a b => exact ⟨a, b, rfl⟩
            subst hps2
            obtain ⟨bb, off, rfl, hr⟩ := HWS.out (by simp)
            have c0 := hr 0 (by simp)
            rw [Nat.add_zero, show sF (v :: r) 0 = v from rfl] at c0
            obtain ⟨k, rfl⟩ : ∃ k, m = k + 1 := ⟨m - 1, by omega⟩
            obtain ⟨j, rfl⟩ : ∃ j, wc = j + 1 := ⟨wc - 1, by omega⟩
            have hrk : r.length = k := by have := HM.out; simp at this; omega
            have hkj : k ≤ j := by omega
            have HRK := hid hrk
            obtain ⟨o1, hsl, ho1⟩ : ∃ o1, (if j = 0 then (some ⟨bb, off, none⟩ : Option Addr) else some ⟨bb, off + 1, none⟩) = some ⟨bb, o1, none⟩ ∧ (0 < j → o1 = off + 1) := by
              by_cases h : j = 0
              · exact ⟨off, by rw [if_pos h], fun h2 => by omega⟩
              · exact ⟨off + 1, by rw [if_neg h], fun _ => rfl⟩
            have HRS : Hid (SLst wa (some ⟨bb, o1, none⟩) r) := hid (fun h0 => ⟨bb, o1, rfl, fun i hi => by
              rw [ho1 (by omega)]
              have := hr (i + 1) (by simp; omega)
              rw [show off + 1 + i = off + (i + 1) from by omega, this]
              rfl⟩)
            have k4 : (0 : Int) < (k : Int) + 1 := by omega
            have k5 : (1 : Int) ≤ (k : Int) + 1 := by omega
            have k6 : (k : Int) + 1 ≤ (j : Int) + 1 := by omega
            have HPX := hid (Tryz.hasPrefix_at v ⟨#[35]⟩ wa)
            rw [show (⟨#[35]⟩ : ByteArray).data.toList = [35] from rfl, pre35] at HPX
            have HVR : Hid (wordsD p.data.toList = v.data.toList :: r.map (·.data.toList)) := hid (by rw [← HWE.out]; rfl)
            clear hr hrk ho1 hmc hm0
            by_cases h35 : v.data.toList.head? = some 35
            · have e35 : decide (v.data.toList.head? = some 35) = true := decide_eq_true h35
              rw [e35] at HPX
              have HST : Hid (stepR sx.data.toList (wordsD p.data.toList) = (sx.data.toList, [])) := hid (by rw [HVR.out, stepR, if_pos h35])
              clear e35 h35
              go_wp2_with (go_at_call 9; refine (HPX.out).mono ?_; rintro e w' ⟨rfl, hw⟩; obtain rfl := hw.symm)
              go_roundg (n - (t + 1))
              case measure => go_light; omega
              case rel => exact ⟨t + 1, sx, by omega, rfl, by go_num, hid (by rw [HNX.out, HST.out, List.append_nil]; exact HSA.out), hid (by rw [HNX.out, HST.out])⟩
            · have e35 : decide (v.data.toList.head? = some 35) = false := decide_eq_false h35
              rw [e35] at HPX
              clear e35
              go_wp2_with (go_at_call 9; refine (HPX.out).mono ?_; rintro e w' ⟨rfl, hw⟩; obtain rfl := hw.symm)
              obtain ⟨hbV, cs, hcs0⟩ := hfr bb off (by omega) rfl
              have hbD : bb ≠ D ∧ bb ≠ D + 1 := by have h1 := HS.out.siz; have h2 := HS.out.bld2; omega
              have HK : Hid (∀ W, DkK D wa W → W.heap[bb]? = some (.cells cs 9 (0, 0))) := hid (fun W hk => by
                have hl := World.block_lt_of_cell? wa _ c0
                rcases Nat.lt_or_ge bb D with h | h
                · exact (hk.below.block bb h).trans hcs0
                · exact (hk.rest bb (by omega) hl).trans hcs0)
              have HKC : Hid (∀ W : World, W.heap[bb]? = some (.cells cs 9 (0, 0)) → W.cell? ⟨bb, off, none⟩ = some (.string v)) := hid (fun W hk => by
                rw [← c0]
                exact World.cell?_of_block (hk.trans hcs0.symm))
              have HAN := hid (fun W (hb : Below wa.heap.size wa W) => answ_any D sx v r (some ⟨bb, o1, none⟩) k j W (HDA.out.kept hb) (HSA.out.dsk.kept hb) hsx HRK.out (by omega) hkj (by omega) (fun q hq => by have := (HWZ.out q (List.mem_cons_of_mem _ hq)).1; omega) (HRS.out.kept hb) h35)
              have HSL2 := hid (stepR_len (t := sx.data.toList) (by rw [← size_list]; exact hsx) (v.data.toList :: r.map (·.data.toList)))
              have HBW2 : Hid (∀ (wb : World) (s' : ByteArray) (oo : List UInt8), RnS w1 wb D s' o → oo.length + 1 ≤ 5000 → Calls Tryz.prog 15 #[.pointer (some ⟨D + 1, 0, none⟩), .string (sB (oo ++ [10]))] wb fun e w' => ∃ x, e = .returned (.tuple #[.int .i64 x, .nilIface]) ∧ RnS w1 w' D s' (o ++ (oo ++ [10])) ∧ (wb.heap[bb]? = some (.cells cs 9 (0, 0)) → w'.heap[bb]? = some (.cells cs 9 (0, 0)))) := hid (fun wb s' oo hS hoo => by
                have hln : (Lib.byteCells o).length + (sB (oo ++ [10])).size ≤ 140737488355328 := by
                  rw [Lib.byteCells_length, sB_size, List.length_append, List.length_singleton]
                  omega
                refine (Tryz.bwrite_at (D + 1) (D + 1) (Lib.byteCells o) (sB (oo ++ [10])) wb hS.bld hln hS.siz).mono ?_
                rintro e w' ⟨h1, h2, h3, h5⟩
                refine ⟨_, h1, ?_, fun h6 => h5 bb _ h6 (fun h7 => hbD.2 (Option.some.inj h7)) (fun c fz h7 => by
                  simp only [Obj.cells.injEq] at h7
                  exact absurd h7.2.1 (by decide))⟩
                have h4 := hS.write h3 h2
                rw [sB_list] at h4
                exact h4)
              clear hfr HPX
              go_region_held3 (fun W => W.cell? ⟨bb, off, none⟩ = some (.string v)) (first | assumption | exact hz2) (first
                | (go_at_call 16; refine (HAN.out _ (Below.refl _ wa).drew).mono ?_; rintro e wb ⟨s', oo, rfl, hR, hd1, hk1⟩; have hk2 : DkK D wa wb := ⟨(Below.refl D wa).drew.trans hk1.below, hk1.rest⟩; have HSB := hid (HSA.out.ans hd1 hk2); have HKB := hid (HK.out _ hk2); have hz2 : wb.cell? ⟨bb, off, none⟩ = some (.string v) := HKC.out _ HKB.out; have ho2 : oo.length + 1 ≤ 5000 := (by have h9 := HSL2.out.2; rw [hR] at h9; simp at h9; omega); have hadd : ∀ W, (Op.stringOp .add (sB oo) ⟨#[10]⟩).run Tryz.prog W = .ok (.string (sB (oo ++ [10]))) W := (fun W => by rw [run_string_add_sum W _ _ (by rw [sB_size]; have : (⟨#[10]⟩ : ByteArray).size = 1 := rfl; omega), ← sB_add]; rfl); have HRB := hid hR; clear hR hd1 hk1 hk2)
                | (go_at_call 15; refine (HBW2.out wb s' oo HSB.out ho2).mono ?_; rintro e wc ⟨x9, rfl, hsc, hkc⟩; have hz2 : wc.cell? ⟨bb, off, none⟩ = some (.string v) := HKC.out _ (hkc HKB.out); have HSC := hid hsc; clear hsc hkc))
              have HST : Hid (stepR sx.data.toList (wordsD p.data.toList) = (s'.data.toList, oo ++ [10])) := hid (by rw [HVR.out]; exact HRB.out)
              clear hz2 hadd HKB HBW2 HAN HSB HRB
              go_wp2_with fail
              go_roundg (n - (t + 1))
              case measure => go_light; omega
              case rel => exact ⟨t + 1, s', by omega, rfl, by go_num, hid (by rw [HNX.out, HST.out]; exact HSC.out), hid (by rw [HNX.out, HST.out])⟩
        · have e : t = n := by omega
          subst e
          have t1 : ¬ ((t : Int) < (t : Int)) := by omega
          have e2 : ls.take t = ls := by rw [← HN.out]; exact List.take_length
          rw [e2, HLD.out, ← HR.out] at HS
          have HSG := hid (Tryz.bstring_at (D + 1) (D + 1) (deskR s.data.toList) wr HS.out.bld HS.out.siz)
          have HBW2 : Hid (∀ W, Below (D + 1) wr W → Below w.heap.size w W) := hid (fun W hb => HB1.out.trans ((HBW.out.trans (hb.mono (by rw [HDE.out]; omega))).mono HB1.out.size))
          clear hbw e2
          go_wp2_with fail
          refine (HSG.out).mono ?_
          rintro e w9 ⟨rfl, hb⟩
          have HB9 := hid (HBW2.out _ hb)
          clear hb
          go_wp2_with fail
          go_ret
          exact ⟨rfl, HB9.out⟩

end Go.Proofs.YtiohbjnnfkadnaaGreatDoor

/-
  Plain: what a desk answers to two texts; what follows is not seen in what was answered; each line that has an answer has one line of it at least.
-/
namespace Go.Proofs.YtiohbjnnfkadnaaGreatDoor
set_option linter.unusedVariables false

/-! ### a text ahead of another -/

theorem pieces_app (b : UInt8) : ∀ (s r : List UInt8), piecesL b (s ++ b :: r) = piecesL b s ++ piecesL b r
  | [], r => by simp [piecesL]
  | x :: s, r => by
    have ih := pieces_app b s r
    rw [List.cons_append, piecesL, piecesL, ih]
    by_cases e : x = b
    · rw [if_pos e, if_pos e]; rfl
    · rw [if_neg e, if_neg e]
      cases h : piecesL b s with
      | nil => exact absurd h (piecesL_ne b s)
      | cons q t => rfl
theorem lines_app (s r : List UInt8) : linesD (s ++ 10 :: r) = piecesL 10 s ++ linesD r := by
  obtain ⟨Q, z, h⟩ := piecesL_last 10 r
  rw [linesD_of h, linesD_of (Q := piecesL 10 s ++ Q) (z := z) (by rw [pieces_app, h, List.append_assoc])]
  by_cases e : z = []
  · rw [if_pos e, if_pos e]
  · rw [if_neg e, if_neg e, List.append_assoc]
theorem foldR_app (st : List UInt8 × List UInt8) (l r : List (List UInt8)) : foldR st (l ++ r) = foldR (foldR st l) r := by unfold foldR; rw [List.foldl_append]
theorem foldR_grows : ∀ (l : List (List UInt8)) (st : List UInt8 × List UInt8), ∃ x, (foldR st l).2 = st.2 ++ x
  | [], st => ⟨[], by simp [foldR]⟩
  | a :: l, st => by
    obtain ⟨x, hx⟩ := foldR_grows l ((stepR st.1 (wordsD a)).1, st.2 ++ (stepR st.1 (wordsD a)).2)
    exact ⟨(stepR st.1 (wordsD a)).2 ++ x, by rw [← List.append_assoc]; exact hx⟩
theorem words_nil : wordsD [] = [] := by simp [wordsD, piecesL]
theorem lines_pieces (s : List UInt8) : (foldR ([], []) (piecesL 10 s)).2 = (foldR ([], []) (linesD s)).2 ∧ (linesD s).length ≤ (piecesL 10 s).length := by
  obtain ⟨Q, z, h⟩ := piecesL_last 10 s
  rw [linesD_of h, h]
  by_cases e : z = []
  · rw [if_pos e, e, foldR_snoc, words_nil]
    exact ⟨by simp [stepR], by simp⟩
  · rw [if_neg e]
    exact ⟨rfl, Nat.le_refl _⟩
/-- What follows is not seen in what was answered. -/
theorem deskR_head (s r : List UInt8) (h1 : (s ++ 10 :: r).length ≤ 65536) (h2 : (linesD (s ++ 10 :: r)).length ≤ 200) : Lib.hasPrefix (deskR (s ++ 10 :: r)) (deskR s) = true := by
  have h3 := lines_pieces s
  have hl : s.length ≤ 65536 := by rw [List.length_append] at h1; omega
  have hn : (linesD s).length ≤ 200 := by rw [lines_app, List.length_append] at h2; omega
  unfold deskR
  rw [if_neg (by omega), if_neg (by omega), lines_app, foldR_app]
  obtain ⟨x, hx⟩ := foldR_grows (linesD r) (foldR ([], []) (piecesL 10 s))
  rw [hx, h3.1]
  unfold Lib.hasPrefix
  rw [List.isPrefixOf_iff_prefix]
  exact List.prefix_append _ _

/-! ### counts -/

/-- A line that has an answer. -/
def hasA (l : List UInt8) : Bool := match wordsD l with | [] => false | v :: _ => !(v.head? == some 35)
def cntD (ls : List (List UInt8)) : Nat := (ls.filter hasA).length
theorem cntD_snoc (ls : List (List UInt8)) (l : List UInt8) : cntD (ls ++ [l]) = cntD ls + (if hasA l then 1 else 0) := by
  unfold cntD
  rw [List.filter_append, List.length_append]
  by_cases h : hasA l = true
  · rw [if_pos h, List.filter_cons_of_pos h]; rfl
  · rw [if_neg h, List.filter_cons_of_neg h]; rfl
/-- Texts that are empty or end with a byte 10. -/
def Ends (o : List UInt8) : Prop := o = [] ∨ ∃ x, o = x ++ [10]
theorem stepR_ends (t : List UInt8) (l : List UInt8) : (hasA l = true → ∃ x, (stepR t (wordsD l)).2 = x ++ [10]) ∧ (hasA l = false → (stepR t (wordsD l)).2 = []) := by
  unfold hasA
  cases h : wordsD l with
  | nil => exact ⟨(fun h => by cases h), fun _ => rfl⟩
  | cons v r =>
    dsimp only
    rw [stepR]
    by_cases h1 : v.head? = some 35
    · rw [if_pos h1]
      exact ⟨fun h2 => by rw [h1] at h2; exact absurd h2 (by decide), fun _ => rfl⟩
    · rw [if_neg h1]
      refine ⟨fun _ => ?_, fun h2 => absurd h2 (by simp [h1])⟩
      split
      · split
        · exact ⟨_, rfl⟩
        · exact ⟨[111, 107], rfl⟩
      · split
        · split
          · exact ⟨[111, 107], rfl⟩
          · exact ⟨_, rfl⟩
        · exact ⟨_, rfl⟩
theorem foldR_counts (ls : List (List UInt8)) : cntD ls ≤ ((foldR ([], []) ls).2).count 10 ∧ Ends (foldR ([], []) ls).2 := by
  have h : ∀ (n : Nat) (l : List (List UInt8)), l.length = n → cntD l ≤ ((foldR ([], []) l).2).count 10 ∧ Ends (foldR ([], []) l).2 := by
    intro n
    induction n with
    | zero =>
      intro l hl
      obtain rfl := List.length_eq_zero_iff.1 hl
      exact ⟨by simp [cntD], .inl (by simp [foldR])⟩
    | succ n ih =>
      intro l hl
      obtain ⟨q, x, rfl⟩ : ∃ q x, l = q ++ [x] := ⟨l.dropLast, l.getLast (fun e => by rw [e] at hl; simp at hl), (List.dropLast_concat_getLast _).symm⟩
      have hq : q.length = n := by simp at hl; exact hl
      obtain ⟨h1, h2⟩ := ih q hq
      obtain ⟨h3, h4⟩ := stepR_ends (foldR ([], []) q).1 x
      rw [foldR_snoc, cntD_snoc]
      dsimp only
      rw [List.count_append]
      by_cases hx : hasA x = true
      · obtain ⟨y, hy⟩ := h3 hx
        rw [if_pos hx, hy]
        refine ⟨?_, .inr ⟨(foldR ([], []) q).2 ++ y, by rw [List.append_assoc]⟩⟩
        rw [List.count_append]
        have : List.count (10 : UInt8) [10] = 1 := by decide
        omega
      · rw [if_neg hx, h4 (by simpa using hx), List.append_nil]
        exact ⟨by simp; omega, h2⟩
  exact h _ ls rfl
theorem deskR_counts (s : List UInt8) (h1 : s.length ≤ 65536) (h2 : (linesD s).length ≤ 200) : cntD (linesD s) ≤ (deskR s).count 10 ∧ Ends (deskR s) := by
  unfold deskR
  rw [if_neg (by omega)]
  exact foldR_counts _
theorem countB_count (s : ByteArray) : Lib.countB s ⟨#[10]⟩ = s.data.toList.count 10 := by
  show Lib.count s.data.toList [10] = _
  exact Lib.count_one 10 _

end Go.Proofs.YtiohbjnnfkadnaaGreatDoor

/-
  Plain: what a desk answers to the two texts that the laws hold it against first.
-/
namespace Go.Proofs.YtiohbjnnfkadnaaGreatDoor
set_option linter.unusedVariables false

/-- The tiny circuit: one gate, the product of two inputs. -/
def cJ : CQ := ⟨1, [⟨0, [⟨true, 0, 1⟩]⟩]⟩
def tJ : List UInt8 := [105, 110, 112, 117, 116, 115, 32, 49, 10, 108, 97, 121, 101, 114, 32, 48, 10, 109, 117, 108, 32, 48, 32, 49, 10]
theorem cJ_right : cJ.right := ⟨by decide, by decide, by decide, ⟨⟨by decide, by decide, fun g hg => by
  simp only [List.mem_singleton] at hg
  subst hg
  exact ⟨by decide, by decide⟩⟩, trivial⟩⟩
theorem tJ_text : textQ tJ = .ok cJ := by
  have h := text_print cJ (fun x hx => by
    have hx : x ∈ [Ln.inputs 1, Ln.layer 0, Ln.gate ⟨true, 0, 1⟩] := hx
    simp only [List.mem_cons, List.not_mem_nil, or_false] at hx
    rcases hx with rfl | rfl | rfl
    · show (0 : Int) ≤ 1 ∧ (1 : Int) < 100; decide
    · show (0 : Int) ≤ 0 ∧ (0 : Int) < 100; decide
    · show ((0 : Int) ≤ 0 ∧ (0 : Int) < 100) ∧ (0 : Int) ≤ 1 ∧ (1 : Int) < 100; decide)
  have e : printQ cJ = tJ := by decide +kernel
  rw [e] at h
  exact h
theorem tJ_parse : parseE tJ cJ 0 0 := .inr (.inr ⟨by decide, cJ, tJ_text, checkE_zero.2 cJ_right, rfl, fun _ => rfl, fun h => absurd rfl h⟩)
theorem hold_first {C : Parts} {D : Nat → Int} {p : Told} {c0 : Int} {inp : Nat → K} (h : C.holds D p c0 inp) (h0 : 0 < C.n) (h1 : 0 < C.lg 1) : addQ (p.R 0 0 0) (p.R 0 0 1) = c0 := (h.1 0 h0).sums 0 (Nat.lt_of_lt_of_le h1 (Nat.le_add_right _ _))
theorem vJ : (valsQ cJ (fOf [3, 4]) cJ.layers.length) = fOf [12] := by
  funext j
  cases j with
  | zero => decide +kernel
  | succ j => rfl
theorem oJ : outD cJ [3, 4] = [12] := by decide +kernel
theorem lgJ : (partsQ cJ).lg 0 = 0 ∧ (partsQ cJ).lg 1 = 1 ∧ (partsQ cJ).n = 1 := ⟨by decide, by decide, by decide⟩
theorem hJ : HoldD cJ [3, 4] [12] := by
  have h := fiat_yes cJ_right 2 1 (fOf [3, 4])
  rw [vJ] at h
  exact h
theorem nJ : ¬ HoldD cJ [3, 4] [13] := fun h => by
  have h1 := hold_first h (by rw [lgJ.2.2]; omega) (by rw [lgJ.2.1]; omega)
  have h2 := hold_first hJ (by rw [lgJ.2.2]; omega) (by rw [lgJ.2.1]; omega)
  rw [lgJ.1, evS_zero] at h1 h2
  have h3 := h1.symm.trans h2
  exact absurd h3 (by decide +kernel)

theorem d3 : Lib.decDigits 3 = [51] := Lib.decDigits_one (by omega)
theorem d4 : Lib.decDigits 4 = [52] := Lib.decDigits_one (by omega)
theorem d12 : Lib.decDigits 12 = [49, 50] := by rw [decDigits_step (by omega), Lib.decDigits_one (by omega)]; rfl
theorem d13 : Lib.decDigits 13 = [49, 51] := by rw [decDigits_step (by omega), Lib.decDigits_one (by omega)]; rfl
theorem n34 : numsF [[51], [52]] = some [3, 4] := numsF_some ⟨by simp [d3, d4], by decide⟩
theorem n12 : numsF [[49, 50]] = some [12] := numsF_some ⟨by simp [d12], by decide⟩
theorem n13 : numsF [[49, 51]] = some [13] := numsF_some ⟨by simp [d13], by decide⟩
theorem aRun : ansD tJ [114, 117, 110] [[51], [52]] = [49, 50] := by
  unfold ansD
  rw [argsP (by decide), n34]
  show ansN tJ [114, 117, 110] [3, 4] [] = _
  rw [ansN_run, netD_run tJ_parse]
  unfold runD
  rw [if_neg (by decide), oJ]
  exact d12
theorem aHold : ansD tJ [112, 114, 111, 118, 101] [[51], [52], [47], [49, 50]] = [104, 111, 108, 100, 115] := by
  unfold ansD
  rw [argsT (by decide)]
  have e : twoA [[51], [52], [47], [49, 50]] = some ([3, 4], [12]) := by
    unfold twoA
    rw [show cutW [[51], [52], [47], [49, 50]] = some ([[51], [52]], [[49, 50]]) from by decide]
    show (numsF [[51], [52]]).bind _ = _
    rw [n34]
    show (numsF [[49, 50]]).map _ = _
    rw [n12]
    rfl
  rw [e]
  show ansN tJ [112, 114, 111, 118, 101] [3, 4] [12] = _
  rw [ansN_prv, netD_prv tJ_parse]
  unfold prvD
  rw [if_neg (by decide), if_neg (by decide), if_pos hJ]
theorem aFail : ansD tJ [112, 114, 111, 118, 101] [[51], [52], [47], [49, 51]] = [102, 97, 105, 108, 115] := by
  unfold ansD
  rw [argsT (by decide)]
  have e : twoA [[51], [52], [47], [49, 51]] = some ([3, 4], [13]) := by
    unfold twoA
    rw [show cutW [[51], [52], [47], [49, 51]] = some ([[51], [52]], [[49, 51]]) from by decide]
    show (numsF [[51], [52]]).bind _ = _
    rw [n34]
    show (numsF [[49, 51]]).map _ = _
    rw [n13]
    rfl
  rw [e]
  show ansN tJ [112, 114, 111, 118, 101] [3, 4] [13] = _
  rw [ansN_prv, netD_prv tJ_parse]
  unfold prvD
  rw [if_neg (by decide), if_neg (by decide), if_neg nJ]

def wCirc : List UInt8 := [99, 105, 114, 99, 117, 105, 116]
theorem stJ (t : List UInt8) (r : List (List UInt8)) (x : List UInt8) (hx : joinD r ++ [10] = x) (hl : t.length + (joinD r).length + 1 ≤ 4096) : stepR t (wCirc :: r) = (t ++ x, [111, 107, 10]) := by
  unfold wCirc
  rw [stepR_circ, if_neg (by omega), hx]
/-- The text that DeskHead holds Run against first. -/
def inJ : List UInt8 := [99, 105, 114, 99, 117, 105, 116, 32, 105, 110, 112, 117, 116, 115, 32, 49, 10, 99, 105, 114, 99, 117, 105, 116, 32, 108, 97, 121, 101, 114, 32, 48, 10, 99, 105, 114, 99, 117, 105, 116, 32, 109, 117, 108, 32, 48, 32, 49, 10, 114, 117, 110, 32, 51, 32, 52, 10, 112, 114, 111, 118, 101, 32, 51, 32, 52, 32, 47, 32, 49, 50, 10, 112, 114, 111, 118, 101, 32, 51, 32, 52, 32, 47, 32, 49, 51, 10]
theorem lnJ : (linesD inJ).map wordsD = [[wCirc, [105, 110, 112, 117, 116, 115], [49]], [wCirc, [108, 97, 121, 101, 114], [48]], [wCirc, [109, 117, 108], [48], [49]], [[114, 117, 110], [51], [52]], [[112, 114, 111, 118, 101], [51], [52], [47], [49, 50]], [[112, 114, 111, 118, 101], [51], [52], [47], [49, 51]]] := by decide +kernel
theorem foldR_words (st : List UInt8 × List UInt8) (ls : List (List UInt8)) : foldR st ls = (ls.map wordsD).foldl (fun s ws => ((stepR s.1 ws).1, s.2 ++ (stepR s.1 ws).2)) st := by
  unfold foldR
  rw [List.foldl_map]
theorem deskJ : deskR inJ = [111, 107, 10, 111, 107, 10, 111, 107, 10, 49, 50, 10, 104, 111, 108, 100, 115, 10, 102, 97, 105, 108, 115, 10] := by
  have hl : (linesD inJ).length = 6 := by have := congrArg List.length lnJ; rw [List.length_map] at this; exact this
  unfold deskR
  rw [if_neg (by rw [hl]; decide), foldR_words, lnJ]
  simp only [List.foldl_cons, List.foldl_nil]
  rw [stJ [] [[105, 110, 112, 117, 116, 115], [49]] [105, 110, 112, 117, 116, 115, 32, 49, 10] (by decide) (by decide)]
  dsimp only
  rw [stJ ([] ++ [105, 110, 112, 117, 116, 115, 32, 49, 10]) [[108, 97, 121, 101, 114], [48]] [108, 97, 121, 101, 114, 32, 48, 10] (by decide) (by decide)]
  dsimp only
  rw [stJ ([] ++ [105, 110, 112, 117, 116, 115, 32, 49, 10] ++ [108, 97, 121, 101, 114, 32, 48, 10]) [[109, 117, 108], [48], [49]] [109, 117, 108, 32, 48, 32, 49, 10] (by decide) (by decide)]
  dsimp only
  rw [show ([] ++ [105, 110, 112, 117, 116, 115, 32, 49, 10] ++ [108, 97, 121, 101, 114, 32, 48, 10] ++ [109, 117, 108, 32, 48, 32, 49, 10] : List UInt8) = tJ from by decide]
  rw [stepR_ans (v := [114, 117, 110]) (by decide) (by decide) (by decide), aRun]
  dsimp only
  rw [stepR_ans (v := [112, 114, 111, 118, 101]) (by decide) (by decide) (by decide), aHold]
  dsimp only
  rw [stepR_ans (v := [112, 114, 111, 118, 101]) (by decide) (by decide) (by decide), aFail]
  rfl

/-- The text that DeskCounts holds Run against first. -/
def inC : List UInt8 := [35, 10, 10, 115, 104, 111, 119]
theorem lnC : (linesD inC).map wordsD = [[[35]], [], [[115, 104, 111, 119]]] := by decide +kernel
theorem emptyE : parseE [] ⟨0, []⟩ 1 3 := .inr (.inl ⟨by decide, rfl, rfl, rfl⟩)
theorem deskC : deskR inC = [101, 114, 114, 111, 114, 32, 51, 32, 49, 10] := by
  have hl : (linesD inC).length = 3 := by have := congrArg List.length lnC; rw [List.length_map] at this; exact this
  have ha : ansD [] [115, 104, 111, 119] [] = [101, 114, 114, 111, 114, 32, 51, 32, 49] := by
    unfold ansD
    rw [argsP (by decide), numsF_some IsNums.nil]
    show ansN [] [115, 104, 111, 119] [] [] = _
    rw [ansN_show, if_pos (by decide)]
    unfold netD
    rw [parseF_eq emptyE]
    dsimp only
    rw [if_pos (by decide)]
    unfold wrongD
    rw [show ((3 : Int)).toNat = 3 from rfl, d3, Lib.decDigits_one (show 1 < 10 by omega)]
    rfl
  unfold deskR
  rw [if_neg (by rw [hl]; decide), foldR_words, lnC]
  simp only [List.foldl_cons, List.foldl_nil]
  rw [show stepR [] [[35]] = ([], []) from by rw [stepR, if_pos (by decide)]]
  dsimp only
  rw [show stepR [] [] = ([], []) from rfl]
  dsimp only
  rw [stepR_ans (v := [115, 104, 111, 119]) (by decide) (by decide) (by decide), ha]
  rfl

end Go.Proofs.YtiohbjnnfkadnaaGreatDoor

/-
  Contract of the law DeskHead: it answers true, whatever texts are handed in; it writes nothing that was there.
-/
namespace Go.Proofs.YtiohbjnnfkadnaaGreatDoor
open Go.RowKit Go.PlainAid
set_option linter.unusedVariables false
attribute [local go_sem ↓] Go.wp_at_zero Go.wp_at_succ

theorem run_lit (l o : List UInt8) (h : deskR l = o) (w : World) (ht : DW w) (hl : l.length ≤ 1000) : Calls Tryz.prog 6 #[.string ⟨l.toArray⟩] w fun e w' => e = .returned (.string ⟨o.toArray⟩) ∧ Below w.heap.size w w' := by
  have h1 := desk_run (sB l) w ht (by rw [sB_size]; unfold maxLen; omega)
  unfold rnOut at h1
  rw [sB_list, h] at h1
  exact h1
theorem deskR_len {s : List UInt8} (h1 : s.length ≤ 65536) (h2 : (linesD s).length ≤ 200) : (deskR s).length ≤ 1000000 := by
  unfold deskR
  rw [if_neg (by omega)]
  have := (foldR_len (linesD s)).2
  omega

set_option maxHeartbeats 4000000 in
set_option maxRecDepth 100000 in
theorem dhead_any (s r : ByteArray) (w : World) (ht : DW w) (hs : s.size + r.size ≤ 9223372036854770000) :
    Calls Tryz.prog 4 #[.string s, .string r] w fun e w' => e = .returned (.bool true) ∧ Below w.heap.size w w' := by
  have HT := hid ht
  have H1 := hid (run_lit inJ _ deskJ w ht (by decide))
  clear ht
  unfold inJ at H1
  obtain ⟨A, hA⟩ : ∃ A, s ++ (⟨#[10]⟩ : ByteArray) ++ r = A := ⟨_, rfl⟩
  have e10 : (⟨#[10]⟩ : ByteArray).size = 1 := rfl
  have hAs : A.size = s.size + r.size + 1 := by rw [← hA, ByteArray.size_append, ByteArray.size_append]; omega
  have HAL : Hid (A.data.toList = s.data.toList ++ 10 :: r.data.toList) := hid (by
    rw [← hA, ByteArray.data_append, Array.toList_append, ByteArray.data_append, Array.toList_append]
    simp)
  have ad1 : ∀ W, (Op.stringOp .add s ⟨#[10]⟩).run Tryz.prog W = .ok (.string (s ++ ⟨#[10]⟩)) W := fun W => run_string_add_sum W s ⟨#[10]⟩ (by omega)
  have ad2 : ∀ W, (Op.stringOp .add (s ++ ⟨#[10]⟩) r).run Tryz.prog W = .ok (.string A) W := fun W => by rw [run_string_add_sum W (s ++ ⟨#[10]⟩) r (by rw [ByteArray.size_append]; omega), hA]
  have HAS := hid hAs
  clear hs hAs hA e10
  go_enter Tryz.func4, Tryz.ntmps4
  go_wp2_with fail
  refine (H1.out).mono ?_
  rintro e w1 ⟨rfl, hb⟩
  have HB1 := hid hb
  clear hb H1
  by_cases hbig : 65536 < A.size
  · have k1 : (65536 : Int) < (A.size : Int) := by omega
    go_wp2_with fail
    go_ret
    exact ⟨rfl, HB1.out⟩
  · have k1 : ¬ (65536 : Int) < (A.size : Int) := by omega
    have HTL := hid (rtlines_any A w1 (by omega))
    go_wp2_with fail
    refine (HTL.out).mono ?_
    rintro e w2 ⟨ao, cap, ls, rfl, hcap, hsl, hld, hsz, hlen, hb2⟩
    have HB2 := hid (HB1.out.trans (hb2.mono HB1.out.size))
    obtain ⟨n, hn⟩ : ∃ n, ls.length = n := ⟨_, rfl⟩
    have HLN : Hid ((linesD A.data.toList).length = n) := hid (by rw [← hld, List.length_map, hn])
    rw [hn]
    rw [hn] at hcap hlen
    clear hb2 hsl hld hsz hn HTL
    by_cases hn2 : 200 < n
    · have k2 : (200 : Int) < (n : Int) := by omega
      go_wp2_with fail
      go_ret
      exact ⟨rfl, HB2.out⟩
    · have k2 : ¬ (200 : Int) < (n : Int) := by omega
      have hAl : A.data.toList.length = A.size := (size_list A).symm
      have HP : Hid (Lib.hasPrefix (sB (deskR A.data.toList)).data.toList (sB (deskR s.data.toList)).data.toList = true) := hid (by
        rw [sB_list, sB_list]
        have h1 := HLN.out
        rw [HAL.out] at h1 hAl ⊢
        exact deskR_head _ _ (by omega) (by omega))
      have HRA := hid (fun W (h : Below w.heap.size w W) => desk_run A W (HT.out.kept h) (by unfold maxLen; omega))
      have HRS := hid (fun W (h : Below w.heap.size w W) => desk_run s W (HT.out.kept h) (by have := HAS.out; unfold maxLen; omega))
      unfold rnOut at HRA HRS
      generalize sB (deskR A.data.toList) = OA at HRA HP
      generalize sB (deskR s.data.toList) = OS at HRS HP
      clear hAl
      go_wp2_with fail
      refine (HRA.out _ HB2.out).mono ?_
      rintro e w3 ⟨rfl, hb⟩
      have HB3 := hid (HB2.out.trans (hb.mono HB2.out.size))
      clear hb
      go_wp2_with fail
      refine (HRS.out _ HB3.out).mono ?_
      rintro e w4 ⟨rfl, hb⟩
      have HB4 := hid (HB3.out.trans (hb.mono HB3.out.size))
      have HPX := hid (Tryz.hasPrefix_at OA OS w4)
      rw [HP.out] at HPX
      clear hb
      go_wp2_with fail
      refine (HPX.out).mono ?_
      rintro e w5 ⟨rfl, hw⟩
      obtain rfl := hw.symm
      go_wp2_with fail
      go_ret
      exact ⟨rfl, HB4.out⟩

end Go.Proofs.YtiohbjnnfkadnaaGreatDoor
