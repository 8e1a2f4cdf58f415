/-
  The right proof, as it is told, and as it is made in memory: parts that are stored one by one; what stays; no program in it but types' numbers.
-/
import Derived.Test.YtaiaillaihlhpafDoorGk3
import Derived.Test.YtaiaillaihlhpafDoorGk5
import Derived.Test.YtaiaillaihlhpafDoorGk9
import Derived.Test.YtaiaillaihlhpafDoorTun
import Derived.Test.YtaiaillaihlhpafDoorCircR2
namespace Go.Proofs.YtaiaillaihlhpafDoor
open Go.RowKit
set_option linter.unusedVariables false

/-- The right proof. -/
def rightP (c : CQ) (f D : Nat → Int) : PQ where
  n := c.layers.length
  rn := fun j => 2 * (partsQ c).lg (j + 1)
  ln := fun j => (partsQ c).lg (j + 1) + 1
  rl := fun _ _ => 3
  R := ((partsQ c).right (valsK c f) D).R
  L := ((partsQ c).right (valsK c f) D).L
theorem rightP_told (c : CQ) (f D : Nat → Int) : (rightP c f D).told = (partsQ c).right (valsK c f) D := rfl
theorem rightP_shaped (c : CQ) (f D : Nat → Int) : shapedQ c (rightP c f D) := ⟨rfl, fun j _ => ⟨rfl, rfl, fun _ _ => rfl⟩⟩
theorem rightP_nums (c : CQ) (f D : Nat → Int) : (rightP c f D).nums := fun j _ => ⟨fun i _ k => ofK_u64 _, fun k => ofK_u64 _⟩
theorem rd_right {c : CQ} {n i t lk bk : Nat} {l : LQ} (hn : c.layers.length = n) (hi : i + t + 1 = n) (hl : c.layers[i]? = some l) (h1 : (partsQ c).lg t = lk) (h2 : (partsQ c).lg (t + 1) = bk) (f D : Nat → Int) (r p : Nat) :
    rdQ l.gates lk bk (valsQ c f i) (zQ (partsQ c) D t) (fun j => D ((partsQ c).at t + j)) r p = (rightP c f D).R t r p := by
  have hg : gatesQ c (c.layers.length - 1 - t) = l.gates := by rw [hn, show n - 1 - t = i from by omega]; exact gatesQ_at hl
  show _ = ofK (rndK (layF (gM (gatesQ c (c.layers.length - 1 - t))) (gA (gatesQ c (c.layers.length - 1 - t))) (gB (gatesQ c (c.layers.length - 1 - t))) ((partsQ c).lg t) ((partsQ c).lg (t + 1)) (valsK c f (t + 1)) ((partsQ c).z D t)) ((partsQ c).lg (t + 1) + (partsQ c).lg (t + 1)) ((partsQ c).d D t) r (kn p))
  have hv : valsK c f (t + 1) = fun j => kk (valsQ c f i j) := by
    funext g
    unfold valsK
    rw [hn, show n - (t + 1) = i from by omega]
  have hz : (partsQ c).z D t = pK (zQ (partsQ c) D t) := by
    funext j
    exact (kk_zQ (partsQ c) D t j).symm
  rw [hg, h1, h2, hv, hz]
  rfl
theorem ln_right {c : CQ} {n i t bk : Nat} (hn : c.layers.length = n) (hi : i + t + 1 = n) (h2 : (partsQ c).lg (t + 1) = bk) (f D : Nat → Int) (s : Nat) :
    lnF (valsQ c f i) (fun j => D ((partsQ c).at t + j)) bk s = (rightP c f D).L t s := by
  show _ = ofK (evS (valsK c f (t + 1)) (lineK ((partsQ c).d D t) (fun i => (partsQ c).d D t ((partsQ c).lg (t + 1) + i)) (kn s)) ((partsQ c).lg (t + 1)))
  have hv : valsK c f (t + 1) = fun j => kk (valsQ c f i j) := by
    funext g
    unfold valsK
    rw [hn, show n - (t + 1) = i from by omega]
  rw [h2, hv]
  unfold lnF
  congr 1
  exact evS_congr _ (fun _ _ => rfl) (fun j _ => by rw [kk_linQ]; rfl)

/-- make([]Part, n). -/
theorem Tryd.infoPt : (Tryd.prog.info? 76).map (fun i => (i.zero, i.size, i.bytes)) = some (some (.agg #[.slice none 0 0, .slice none 0 0]), 2, 48) := by kernel_rfl
theorem run_make_parts (n : Nat) (hn : n ≤ 1000) (w : World) : (Instr.makeSlice 49 (.int .i64 (n : Int)) (.int .i64 (n : Int))).run Tryd.prog w = .ok (.slice (some ⟨w.heap.size, 0, none⟩) n n) (w.alloc (.cells (madeCells #[.slice none 0 0, .slice none 0 0] (n * 2)) 76)) := by
  obtain ⟨i, hi, hz⟩ := Option.map_eq_some_iff.1 Tryd.infoPt
  simp only [Prod.mk.injEq] at hz
  obtain ⟨h1, h2, h3⟩ := hz
  have h := run_make (P := Tryd.prog) w 49 76 i _ Tryd.underlying49 hi h1 .i64 .i64 (n : Int) (n : Int) (by omega) (by omega) (by rw [h3]; omega) (by omega)
  rw [h2] at h
  exact h
theorem made_two (m o : Nat) : (madeCells #[.slice none 0 0, .slice none 0 0] m)[o]? = if o < m then some (.slice none 0 0) else none := by
  by_cases h : o < m
  · rw [if_pos h]
    have : o % 2 = 0 ∨ o % 2 = 1 := by omega
    rcases this with e | e <;> simp [madeCells, h, e]
  · rw [if_neg h]
    simp [madeCells, h]
/-- Prove's own cells: the circuit's, the result's; what was there. -/
structure StP (w W : World) (X : Nat) (g : Int) (v : Value) : Prop where
  st : StQ w W X g v (.slice none 0 0)
  free : W.frozen? ⟨X + 1, 0, none⟩ = false
  low : w.heap.size ≤ X
theorem StP.lt {w W : World} {X : Nat} {g : Int} {v : Value} (h : StP w W X g v) : X + 1 < W.heap.size := World.block_lt_of_cell? W _ h.st.pc
theorem StP.next {w W W' : World} {X : Nat} {g : Int} {v : Value} (h : StP w W X g v) (hb : Below W.heap.size W W') : StP w W' X g v := ⟨h.st.next hb, (hb.frozen h.lt).trans h.free, h.low⟩
theorem StP.start (w : World) (g : Int) (v : Value) (t t' : TypeId) : StP w ((w.alloc (.cells #[.int .i64 g, v] t)).alloc (.cells #[.slice none 0 0] t')) w.heap.size g v := by
  refine ⟨StQ.start w g v _ t t', ?_, Nat.le_refl _⟩
  have e : (w.alloc (.cells #[.int .i64 g, v] t)).heap.size = w.heap.size + 1 := by simp
  rw [← e, World.frozen?_alloc_new]
/-- s1 parts' rounds and s2 parts' lines are stored in block PB, which was made at the end of W1; W is what the turns left. -/
structure PvS (W1 W wr : World) (PB n s1 s2 : Nat) (k R L : Nat → Nat) (a : Nat → Nat → Nat) (F : Nat → Nat → Nat → Int) (G : Nat → Nat → Int) : Prop where
  bel : Below PB W1 wr
  but : ∀ q, q < W.heap.size → q ≠ PB → wr.heap[q]? = W.heap[q]?
  size : W.heap.size ≤ wr.heap.size
  lt : PB < W.heap.size
  c0 : ∀ j, j < n → wr.cell? ⟨PB, j * 2, none⟩ = some (if j < s1 then .slice (some ⟨R j, 0, none⟩) (2 * k j) (2 * k j) else .slice none 0 0)
  c1 : ∀ j, j < n → wr.cell? ⟨PB, j * 2 + 1, none⟩ = some (if j < s2 then .slice (some ⟨L j, 0, none⟩) (k j + 1) (k j + 1) else .slice none 0 0)
  free : ∀ j, wr.frozen? ⟨PB, j, none⟩ = false
  rows : ∀ j, j < s1 → Grid wr (R j) (2 * k j) 3 (a j) (F j) (PB + 1)
  line : ∀ j, j < s2 → Row wr (L j) 0 (k j + 1) (G j) ∧ PB < L j ∧ L j < wr.heap.size
/-- The parts' block as it was made. -/
def PB0 (W : World) (PB n : Nat) : Prop := ∃ t, W.heap[PB]? = some (.cells (madeCells #[.slice none 0 0, .slice none 0 0] (n * 2)) t (0, 0))
theorem PB0.not {W : World} {PB n b o : Nat} {q : IntKind} {x : Int} (h : PB0 W PB n) (hc : W.cell? ⟨b, o, none⟩ = some (.int q x)) : b ≠ PB := by
  intro e
  subst e
  obtain ⟨t, h1⟩ := h
  simp only [World.cell?, h1, made_two] at hc
  split at hc <;> simp at hc
theorem PvS.start {W1 W : World} {n : Nat} {t : TypeId} (hb : Below (W1.alloc (.cells (madeCells #[.slice none 0 0, .slice none 0 0] (n * 2)) t)).heap.size (W1.alloc (.cells (madeCells #[.slice none 0 0, .slice none 0 0] (n * 2)) t)) W) (k R L : Nat → Nat) (a : Nat → Nat → Nat) (F : Nat → Nat → Nat → Int) (G : Nat → Nat → Int) :
    PvS W1 W W W1.heap.size n 0 0 k R L a F G ∧ PB0 W W1.heap.size n := by
  have hlt : W1.heap.size < (W1.alloc (.cells (madeCells #[.slice none 0 0, .slice none 0 0] (n * 2)) t)).heap.size := by simp
  have hal := (Below.refl W1.heap.size W1).alloc (Nat.le_refl _) (.cells (madeCells #[.slice none 0 0, .slice none 0 0] (n * 2)) t)
  have hc : ∀ o, o < n * 2 → W.cell? ⟨W1.heap.size, o, none⟩ = some (.slice none 0 0) := fun o ho => by
    rw [hb.cell hlt, World.cell?_alloc_new, made_two, if_pos ho]
  refine ⟨⟨hal.trans (hb.mono hal.size), fun q _ _ => rfl, Nat.le_refl _, Nat.lt_of_lt_of_le hlt hb.size, fun j hj => ?_, fun j hj => ?_, fun j => ?_, fun j hj => absurd hj (by omega), fun j hj => absurd hj (by omega)⟩, t, ?_⟩
  · rw [hc _ (by omega), if_neg (by omega)]
  · rw [hc _ (by omega), if_neg (by omega)]
  · rw [hb.frozen hlt, World.frozen?_alloc_new]
  · rw [hb.block _ hlt]
    exact World.alloc_heap_new W1 _
theorem PvS.kept {W1 W wr wr' : World} {PB n s1 s2 : Nat} {k R L : Nat → Nat} {a : Nat → Nat → Nat} {F : Nat → Nat → Nat → Int} {G : Nat → Nat → Int} (h : PvS W1 W wr PB n s1 s2 k R L a F G) (hb : Below wr.heap.size wr wr') : PvS W1 W wr' PB n s1 s2 k R L a F G := by
  have hlt := Nat.lt_of_lt_of_le h.lt h.size
  exact ⟨h.bel.trans (hb.mono (Nat.le_of_lt hlt)), fun q h1 h2 => (hb.block q (Nat.lt_of_lt_of_le h1 h.size)).trans (h.but q h1 h2), Nat.le_trans h.size hb.size, h.lt, fun j hj => (hb.cell hlt).trans (h.c0 j hj), fun j hj => (hb.cell hlt).trans (h.c1 j hj), fun j => (hb.frozen hlt).trans (h.free j), fun j hj => (h.rows j hj).kept hb, fun j hj => ⟨(h.line j hj).1.kept hb (h.line j hj).2.2, (h.line j hj).2.1, Nat.lt_of_lt_of_le (h.line j hj).2.2 hb.size⟩⟩
/-- A store into the parts' block leaves lists of lists elsewhere. -/
theorem Grid.far {w : World} {R n N : Nat} {a : Nat → Nat} {F : Nat → Nat → Int} {base : Nat} (h : Grid w R n N a F base) {PB o : Nat} (v : Value) (hb : PB < base) : Grid (w.setCell ⟨PB, o, none⟩ v) R n N a F base := by
  have far : ∀ (b : Nat), b ≠ PB → (w.setCell ⟨PB, o, none⟩ v).heap[b]? = w.heap[b]? := fun b hb => Below.heap_setCell _ _ _ _ hb
  refine ⟨h.low, by rw [World.size_setCell]; exact h.lt, fun i hi => ?_, fun i hi j hj => ?_, fun i hi j hj => by rw [World.frozen?_setCell]; exact h.may i hi j hj, h.apart, h.own, fun i hi => by rw [World.size_setCell]; exact h.high i hi⟩
  · exact (World.cell?_of_block (w := w) (far R (by have := h.low; omega))).trans (h.cell i hi)
  · exact (World.cell?_of_block (w := w) (far (a i) (by have := (h.high i hi).1; omega))).trans (h.row i hi j hj)
theorem PvS.put0 {W1 W wr : World} {PB n s1 s2 : Nat} {k R L : Nat → Nat} {a : Nat → Nat → Nat} {F : Nat → Nat → Nat → Int} {G : Nat → Nat → Int} (h : PvS W1 W wr PB n s1 s2 k R L a F G) (hs : s1 < n) {R' : Nat} {a' : Nat → Nat} {base : Nat} (hg : Grid wr R' (2 * k s1) 3 a' (F s1) base) (hbase : PB < base) :
    PvS W1 W (wr.setCell ⟨PB, s1 * 2, none⟩ (.slice (some ⟨R', 0, none⟩) (2 * k s1) (2 * k s1))) PB n (s1 + 1) s2 k (fun j => if j = s1 then R' else R j) L (fun j => if j = s1 then a' else a j) F G := by
  have far : ∀ (b : Nat), b ≠ PB → (wr.setCell ⟨PB, s1 * 2, none⟩ (.slice (some ⟨R', 0, none⟩) (2 * k s1) (2 * k s1))).heap[b]? = wr.heap[b]? := fun b hb => Below.heap_setCell _ _ _ _ hb
  refine ⟨h.bel.setCell (Nat.le_refl _) _, fun q h1 h2 => (far q h2).trans (h.but q h1 h2), by rw [World.size_setCell]; exact h.size, h.lt, fun j hj => ?_, fun j hj => ?_, fun j => by rw [World.frozen?_setCell]; exact h.free j, fun j hj => ?_, fun j hj => ?_⟩
  · by_cases e : j = s1
    · subst e
      rw [World.cell?_setCell_same _ _ _ (h.c0 j hj)]
      rw [if_pos (by omega), if_pos rfl]
    · rw [World.cell?_setCell_other _ _ _ _ (by intro e2; simp only [Addr.mk.injEq] at e2; omega), h.c0 j hj]
      rw [if_neg e]
      by_cases e3 : j < s1
      · rw [if_pos e3, if_pos (by omega)]
      · rw [if_neg e3, if_neg (by omega)]
  · rw [World.cell?_setCell_other _ _ _ _ (by intro e2; simp only [Addr.mk.injEq] at e2; omega), h.c1 j hj]
  · by_cases e : j = s1
    · subst e
      rw [if_pos rfl, if_pos rfl]
      exact (hg.base (b2 := PB + 1) hbase).far _ (by omega)
    · rw [if_neg e, if_neg e]
      exact (h.rows j (by omega)).far _ (by omega)
  · obtain ⟨h1, h2, h3⟩ := h.line j hj
    exact ⟨fun q hq => (World.cell?_of_block (w := wr) (far (L j) (by omega))).trans (h1 q hq), h2, by rw [World.size_setCell]; exact h3⟩
theorem PvS.put1 {W1 W wr : World} {PB n s1 s2 : Nat} {k R L : Nat → Nat} {a : Nat → Nat → Nat} {F : Nat → Nat → Nat → Int} {G : Nat → Nat → Int} (h : PvS W1 W wr PB n s1 s2 k R L a F G) (hs : s2 < n) {L' : Nat} (hr : Row wr L' 0 (k s2 + 1) (G s2)) (hl : PB < L') (hl2 : L' < wr.heap.size) :
    PvS W1 W (wr.setCell ⟨PB, s2 * 2 + 1, none⟩ (.slice (some ⟨L', 0, none⟩) (k s2 + 1) (k s2 + 1))) PB n s1 (s2 + 1) k R (fun j => if j = s2 then L' else L j) a F G := by
  have far : ∀ (b : Nat), b ≠ PB → (wr.setCell ⟨PB, s2 * 2 + 1, none⟩ (.slice (some ⟨L', 0, none⟩) (k s2 + 1) (k s2 + 1))).heap[b]? = wr.heap[b]? := fun b hb => Below.heap_setCell _ _ _ _ hb
  refine ⟨h.bel.setCell (Nat.le_refl _) _, fun q h1 h2 => (far q h2).trans (h.but q h1 h2), by rw [World.size_setCell]; exact h.size, h.lt, fun j hj => ?_, fun j hj => ?_, fun j => by rw [World.frozen?_setCell]; exact h.free j, fun j hj => (h.rows j hj).far _ (by omega), fun j hj => ?_⟩
  · rw [World.cell?_setCell_other _ _ _ _ (by intro e2; simp only [Addr.mk.injEq] at e2; omega), h.c0 j hj]
  · by_cases e : j = s2
    · subst e
      rw [World.cell?_setCell_same _ _ _ (h.c1 j hj)]
      rw [if_pos (by omega), if_pos rfl]
    · rw [World.cell?_setCell_other _ _ _ _ (by intro e2; simp only [Addr.mk.injEq] at e2; omega), h.c1 j hj]
      rw [if_neg e]
      by_cases e3 : j < s2
      · rw [if_pos e3, if_pos (by omega)]
      · rw [if_neg e3, if_neg (by omega)]
  · by_cases e : j = s2
    · subst e
      rw [if_pos rfl]
      exact ⟨fun q hq => (World.cell?_of_block (w := wr) (far L' (by omega))).trans (hr q hq), hl, by rw [World.size_setCell]; exact hl2⟩
    · rw [if_neg e]
      obtain ⟨h1, h2, h3⟩ := h.line j (by omega)
      exact ⟨fun q hq => (World.cell?_of_block (w := wr) (far (L j) (by omega))).trans (h1 q hq), h2, by rw [World.size_setCell]; exact h3⟩
/-- The turns lie where they lay. -/
theorem PvS.turns {W1 W wr : World} {PB n s1 s2 : Nat} {k R L : Nat → Nat} {a : Nat → Nat → Nat} {F : Nat → Nat → Nat → Int} {G : Nat → Nat → Int} (h : PvS W1 W wr PB n s1 s2 k R L a F G) {T : Nat} {c : CQ} {bd od cd : Nat} {D : Nat → Int} {Z : Nat → Option Addr} {CZ : Nat → Nat} (hp : PB0 W PB n) (ht : TuRow W T c bd od cd D Z CZ n) : TuRow wr T c bd od cd D Z CZ n := by
  have cell : ∀ (b o : Nat) (v : Value), b ≠ PB → W.cell? ⟨b, o, none⟩ = some v → wr.cell? ⟨b, o, none⟩ = some v := fun b o v hb hc => (World.cell?_of_block (w := W) (h.but b (World.block_lt_of_cell? W _ hc) hb)).trans hc
  refine ⟨fun j hj => cell _ _ _ (hp.not (ht.c0 j hj)) (ht.c0 j hj), fun j hj => cell _ _ _ (hp.not (ht.c0 j hj)) (ht.c1 j hj), fun j hj => cell _ _ _ (hp.not (ht.c0 j hj)) (ht.c2 j hj), fun j hj => cell _ _ _ (hp.not (ht.c0 j hj)) (ht.c3 j hj), fun j hj hn => ?_⟩
  obtain ⟨b, o, e, hr⟩ := ht.zrow j hj hn
  exact ⟨b, o, e, fun i hi => cell _ _ _ (hp.not (hr i hi)) (hr i hi)⟩
/-- All are stored, and the result told: a proof lies there. -/
theorem PvS.done {W1 W wr : World} {PB n : Nat} {R L : Nat → Nat} {a : Nat → Nat → Nat} {c : CQ} {f D : Nat → Int} (hn : c.layers.length = n) (h : PvS W1 W wr PB n n n (fun j => (partsQ c).lg (j + 1)) R L a (rightP c f D).R (rightP c f D).L) {Q : Nat} (hQ : Q < PB) (v : Value) :
    ∃ m, PfRow (wr.setCell ⟨Q, 0, none⟩ v) (some ⟨PB, 0, none⟩) (rightP c f D) m := by
  refine ⟨⟨fun j => some ⟨R j, 0, none⟩, fun j => some ⟨L j, 0, none⟩, fun j => 2 * (partsQ c).lg (j + 1), fun j => (partsQ c).lg (j + 1) + 1, fun j i => some ⟨a j i, 0, none⟩, fun _ _ => 3⟩, fun _ => ⟨PB, 0, rfl, fun j hj => ?_⟩⟩
  have far : ∀ (b : Nat), b ≠ Q → (wr.setCell ⟨Q, 0, none⟩ v).heap[b]? = wr.heap[b]? := fun b hb => Below.heap_setCell _ _ _ _ hb
  have hj' : j < n := by rw [← hn]; exact hj
  have h0 := h.c0 j hj'
  have h1 := h.c1 j hj'
  have hg := (h.rows j hj').far (PB := Q) (o := 0) v (by omega)
  obtain ⟨l1, l2, l3⟩ := h.line j hj'
  rw [if_pos hj'] at h0 h1
  rw [Nat.zero_add, Nat.mul_comm 2 j]
  refine ⟨(World.cell?_of_block (w := wr) (far PB (by omega))).trans h0, (World.cell?_of_block (w := wr) (far PB (by omega))).trans h1, fun _ => ⟨R j, 0, rfl, fun i hi => ⟨?_, PRow.of (hg.row i hi)⟩⟩, PRow.of (n := (partsQ c).lg (j + 1) + 1) fun q hq => (World.cell?_of_block (w := wr) (far (L j) (by omega))).trans (l1 q hq)⟩
  rw [Nat.zero_add]
  exact hg.cell i hi

/-- What Prove tells of right things. -/
def proveOut (c : CQ) (f D : Nat → Int) (n : Nat) (w : World) (e : Ending) (w' : World) : Prop := ∃ PB m, e = .returned (.tuple #[.agg #[.slice (some ⟨PB, 0, none⟩) n n], .int .i64 0]) ∧ PfRow w' (some ⟨PB, 0, none⟩) (rightP c f D) m ∧ w.heap.size ≤ PB ∧ Below w.heap.size w w'
theorem load_prf {w : World} {b : Nat} {x0 : Value} (c0 : w.cell? ⟨b, 0, none⟩ = some x0) : (loadVar 51 ⟨b, 0, none⟩).run Tryd.prog w = .ok (.agg #[x0]) w := by
  go_simp
theorem results_prf {fn : Func} {p u : Tmp} (h : fn.results = #[.cell p 51, .tmp u]) {tmps : Array Value} {w : World} {b : Nat} {x0 : Value} (hp : tmps.getD p undef = .pointer (some ⟨b, 0, none⟩)) (c0 : w.cell? ⟨b, 0, none⟩ = some x0) :
    (results fn tmps).run Tryd.prog w = .ok (.tuple #[.agg #[x0], tmps.getD u undef]) w := by
  rw [results_cell_tmp h, hp]
  simp [asAddr, Result.andThen, load_prf c0]
/-- The eight cells that the rounds' call reads. -/
abbrev EightC (TB X b o : Nat) (p q r s u v x y : Value) (W : World) : Prop := (W.cell? ⟨TB, 0, none⟩ = some p ∧ W.cell? ⟨TB, 1, none⟩ = some q ∧ W.cell? ⟨TB, 2, none⟩ = some r ∧ W.cell? ⟨TB, 3, none⟩ = some s) ∧ (W.cell? ⟨X, 0, none⟩ = some u ∧ W.cell? ⟨X, 1, none⟩ = some v) ∧ W.cell? ⟨b, o, none⟩ = some x ∧ W.cell? ⟨b, o + 1, none⟩ = some y
theorem EightC.kept {TB X b o : Nat} {p q r s u v x y : Value} {W W' : World} (h : EightC TB X b o p q r s u v x y W) (hb : Below W.heap.size W W') : EightC TB X b o p q r s u v x y W' := by
  have k : ∀ (a : Addr) (z : Value), W.cell? a = some z → W'.cell? a = some z := fun a z hz => (hb.cell (World.block_lt_of_cell? W _ hz)).trans hz
  exact ⟨⟨k _ _ h.1.1, k _ _ h.1.2.1, k _ _ h.1.2.2.1, k _ _ h.1.2.2.2⟩, ⟨k _ _ h.2.1.1, k _ _ h.2.1.2⟩, k _ _ h.2.2.1, k _ _ h.2.2.2⟩
theorem EightC.set {TB X b o : Nat} {p q r s u v x y : Value} {W : World} (h : EightC TB X b o p q r s u v x y W) {PB o' : Nat} (h1 : TB ≠ PB) (h2 : X ≠ PB) (h3 : b ≠ PB) (z : Value) : EightC TB X b o p q r s u v x y (W.setCell ⟨PB, o', none⟩ z) := by
  have k : ∀ (d e : Nat) (y : Value), d ≠ PB → W.cell? ⟨d, e, none⟩ = some y → (W.setCell ⟨PB, o', none⟩ z).cell? ⟨d, e, none⟩ = some y := fun d e y hd hy => by
    rw [World.cell?_setCell_other _ _ _ _ (by intro e2; simp only [Addr.mk.injEq] at e2; omega)]
    exact hy
  exact ⟨⟨k _ _ _ h1 h.1.1, k _ _ _ h1 h.1.2.1, k _ _ _ h1 h.1.2.2.1, k _ _ _ h1 h.1.2.2.2⟩, ⟨k _ _ _ h2 h.2.1.1, k _ _ _ h2 h.2.1.2⟩, k _ _ _ h3 h.2.2.1, k _ _ _ h3 h.2.2.2⟩

end Go.Proofs.YtaiaillaihlhpafDoor
