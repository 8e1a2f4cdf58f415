/-
  A law of a region that draws its order: what yields in every world that meets S, calls that only read among it, is taken first, in an order that the prover names; what is left comes one by one; behind all but the last S is shown.
-/
import Derived.OrdersHeld
import Derived.StillTail
import Derived.Deep.AppendLies
namespace Go.Proofs.YtnnjajmkfgnhcaaDoor
open Go

section
variable {P : Program} {ops : Array Oper} {Q : Exit → Act → World → Prop} {md : Region.Mode} {S : World → Prop}

/-- In state 'a', in every world that meets S, 'o' leaves 'v' and does nothing else: by itself, or by a call that only reads. -/
def YldC (P : Program) (ops : Array Oper) (S : World → Prop) (o : Oper) (v : Value) (a : Act) : Prop :=
  Region.wanted o (yielded ops a.tmps) = true ∧ ∀ w, S w → ((execOp a.eval o).run P w = .ok (.value v) w ∨ ∃ f args, (execOp a.eval o).run P w = .ok (.enter f args) w ∧ Calls P f args w (fun e w2 => e = .returned v ∧ w2 = w))

theorem YldC.wpOp {i : Nat} {o : Oper} {v : Value} {a : Act} (hi : ops[i]? = some o) (hy : YldC P ops S o v a)
    {K : Act → World → Prop} {w : World} (hS : S w) (h : K (a.put o.dst v) w) : wpOp P ops Q i K a w := by
  unfold Go.wpOp
  simp only [hi]
  obtain ⟨hw, hv⟩ := hy
  simp only [hw, if_true]
  refine .inl ?_
  rcases hv w hS with hv | ⟨f, args, hv, hc⟩
  · simp only [Oper.wp, hv, Oper.upon]; exact h
  · simp only [Oper.wp, hv, Oper.upon]
    exact Calls.mono hc fun e w2 ⟨he, hw2⟩ => by subst he; subst hw2; exact h

theorem YldC.of_same {o : Oper} {v : Value} {a a' : Act} (hy : YldC P ops S o v a) (he : execOp a'.eval o = execOp a.eval o)
    (hw : Region.wanted o (yielded ops a'.tmps) = Region.wanted o (yielded ops a.tmps)) : YldC P ops S o v a' := by
  unfold YldC at *
  rw [he, hw]
  exact hy

theorem wpOp_putC {j : Nat} {oi oj : Oper} {v : Value} (hj : ops[j]? = some oj) (hap : oi.apart ops oj = true)
    (hsi : ∀ cs b, oi.op ≠ .select cs b) (hsj : ∀ cs b, oj.op ≠ .select cs b)
    (hQ : ∀ c a w, Q (.panic c) (a.put oi.dst v) w → Q (.panic c) a w) {K : Act → World → Prop} {a : Act} {w : World}
    (hy : YldC P ops S oi v a) (h : wpOp P ops Q j K (a.put oi.dst v) w) :
    wpOp P ops Q j (fun a' w' => YldC P ops S oi v a' ∧ K (a'.put oi.dst v) w') a w := by
  obtain ⟨h1, h2, h3⟩ := Oper.apart_spec hap
  have keep : ∀ (a : Act), YldC P ops S oi v a → ∀ u, YldC P ops S oi v (a.put oj.dst u) := fun a hy u =>
    hy.of_same (execOp_put oi hsi a oj.dst u h3) (wanted_put oi a oj.dst u h3)
  have keepD : ∀ d, YldC P ops S oi v { a with defers := d :: a.defers } := fun d => hy.of_same rfl rfl
  unfold Go.wpOp at *
  simp only [hj] at *
  rw [wanted_put oj a oi.dst v h1] at h
  split
  · rename_i hw
    simp only [hw, if_true] at h
    rcases h with h | ⟨hasks, hlets⟩
    case inr => exact .inr ⟨by unfold Oper.asks at *; rw [execOp_put oj hsj a oi.dst v h1] at hasks; exact hasks, hlets⟩
    refine .inl ?_
    unfold Oper.wp at *
    rw [execOp_put oj hsj a oi.dst v h1] at h
    generalize (execOp a.eval oj).run P w = r at *
    cases r with
    | ok n w' =>
      cases n <;> simp only [Oper.upon] at h ⊢
      case value u => exact ⟨keep a hy u, by rw [← Act.put_comm a v u h2]; exact h⟩
      case skip => exact ⟨keep a hy _, by rw [← Act.put_comm a v undef h2]; exact h⟩
      case defer d =>
        refine ⟨keep _ (keepD d) _, ?_⟩
        rw [← Act.put_comm _ v undef h2, ← Act.put_defers]
        exact h
      case enter f args =>
        refine Calls.mono h fun e w2 he => ?_
        cases e with
        | returned u => exact ⟨keep a hy u, by rw [← Act.put_comm a v u h2]; exact he⟩
        | panicked c => exact hQ _ _ _ he
        | outgrown => exact he
      case row row args => exact Rows.mono h fun u w2 he => ⟨keep a hy u, by rw [← Act.put_comm a v u h2]; exact he⟩
    | halt x w' =>
      cases x <;> simp only [Oper.upon] at h ⊢
      case panic u => exact hQ _ _ _ h
  · rename_i hw
    simp only [hw] at h
    exact ⟨keep a hy _, by rw [← Act.put_comm a v undef h2]; exact h⟩

/-- Whatever order is picked; behind those ahead of number k S holds. -/
def wpAnyK (P : Program) (md : Region.Mode) (ops : Array Oper) (Q : Exit → Act → World → Prop) (S : World → Prop) (k : Nat) : Nat → Array Bool → Act → World → Prop
  | 0, listed, a, w => Region.ready md ops listed = [] ∧ Q .normal a w
  | fuel + 1, listed, a, w =>
    (Region.ready md ops listed = [] → Q .normal a w) ∧
    ∀ i ∈ Region.ready md ops listed, wpOp P ops Q i (fun a' w' => (i < k → S w') ∧ wpAnyK P md ops Q S k fuel (listed.setIfInBounds i true) a' w') a w

theorem wpAny_of_K {k : Nat} : ∀ (fuel : Nat) (listed : Array Bool) (a : Act) (w : World), wpAnyK P md ops Q S k fuel listed a w → wpAny P md ops Q fuel listed a w
  | 0, _, _, _, h => h
  | fuel + 1, _, _, _, h => ⟨h.1, fun i hi => wpOp_mono (fun a' w' h' => wpAny_of_K fuel _ a' w' h'.2) (h.2 i hi)⟩

theorem wpAnyK_first {i k : Nat} {oi : Oper} {v : Value} (hi : ops[i]? = some oi) (hsel : ∀ (j : Nat) (o : Oper) cs b, ops[j]? = some o → o.op ≠ .select cs b)
    (hQ : ∀ c a w, Q (.panic c) (a.put oi.dst v) w → Q (.panic c) a w)
    (hs : Region.sinkB md ops k = true) (hc : Region.chainB md ops k = true) (hn : k < ops.size) (hik : i < k) :
    ∀ (fuel : Nat) (listed : Array Bool) (a : Act) (w : World), HeadInv md ops k listed →
      (∀ j oj, ops[j]? = some oj → j ≠ i → listed.getD j true = false → (∀ e ∈ oj.after, Region.binds md e = true → e.on ≠ i) → oi.apart ops oj = true) →
      i ∈ Region.ready md ops listed → YldC P ops S oi v a → S w →
      wpAnyK P md ops Q S k fuel (listed.setIfInBounds i true) (a.put oi.dst v) w → wpAnyK P md ops Q S k (fuel + 1) listed a w := by
  intro fuel
  induction fuel with
  | zero =>
    intro listed a w _ _ hr hy hS H
    refine ⟨fun h => (by rw [h] at hr; cases hr), fun j hj => ?_⟩
    by_cases hji : j = i
    · subst hji; exact hy.wpOp hi hS ⟨fun _ => hS, H⟩
    · have := ready_mono hj hji
      rw [H.1] at this
      cases this
  | succ fuel ih =>
    intro listed a w inv hfree hr hy hS H
    have hun := (mem_ready.1 hr).1
    refine ⟨fun h => (by rw [h] at hr; cases hr), fun j hj => ?_⟩
    by_cases hji : j = i
    · subst hji; exact hy.wpOp hi hS ⟨fun _ => hS, H⟩
    · have hjk : j < k := by
        rcases Nat.lt_or_ge j k with h | h
        · exact h
        · exact absurd hj (tail_waits hs hc hn inv _ i rfl hik hun j h)
      have h1 := H.2 j (ready_mono hj hji)
      obtain ⟨hjun, oj, hoj, hall⟩ := mem_ready.1 hj
      have hnot : ∀ e ∈ oj.after, Region.binds md e = true → e.on ≠ i := fun e he hb heq => by
        have h1 := hall e he hb
        rw [heq, getD_both hun] at h1
        cases h1
      have h2 := wpOp_putC hoj (hfree j oj hoj hji hjun hnot) (fun cs b => hsel i oi cs b hi) (fun cs b => hsel j oj cs b hoj) hQ hy h1
      have hfree' : ∀ k ok, ops[k]? = some ok → k ≠ i → (listed.setIfInBounds j true).getD k true = false →
          (∀ e ∈ ok.after, Region.binds md e = true → e.on ≠ i) → oi.apart ops ok = true := fun k ok hk hki hun hno => by
        refine hfree k ok hk hki ?_ hno
        by_cases hjk : j = k
        · subst hjk; exact hjun
        · rw [getD_set_ne true hjk] at hun; exact hun
      refine wpOp_mono (fun a' w' h3 => ⟨fun hne => h3.2.1 hne, ih (listed.setIfInBounds j true) a' w' (inv.set hj hjk) hfree' (ready_mono hr (Ne.symm hji)) h3.1 (h3.2.1 hjk) ?_⟩) h2
      rw [Array.setIfInBounds_comm _ _ hji]
      exact h3.2.2

/-- One by one, in the order of a list; what is left is L. -/
def tknList (P : Program) (ops : Array Oper) (S : World → Prop) (L : Act → Prop) : List Oper → Act → Prop
  | [], a => L a
  | o :: rest, a => ∃ v, YldC P ops S o v a ∧ tknList P ops S L rest (a.put o.dst v)
theorem tknList_nil {L : Act → Prop} {a : Act} (h : L a) : tknList P ops S L [] a := h
theorem tknList_val {L : Act → Prop} {a : Act} {o : Oper} {rest : List Oper} {v : Value} (hw : Region.wanted o (yielded ops a.tmps) = true) (h : ∀ w, S w → (execOp a.eval o).run P w = .ok (.value v) w) (hr : tknList P ops S L rest (a.put o.dst v)) : tknList P ops S L (o :: rest) a := ⟨v, ⟨hw, fun w hS => .inl (h w hS)⟩, hr⟩
theorem tknList_call {L : Act → Prop} {a : Act} {o : Oper} {rest : List Oper} {v : Value} {f : FuncId} {args : Array Value} (hw : Region.wanted o (yielded ops a.tmps) = true) (h : ∀ w, S w → (execOp a.eval o).run P w = .ok (.enter f args) w) (hc : ∀ w, S w → Calls P f args w (fun e w2 => e = .returned v ∧ w2 = w)) (hr : tknList P ops S L rest (a.put o.dst v)) : tknList P ops S L (o :: rest) a := ⟨v, ⟨hw, fun w hS => .inr ⟨f, args, h w hS, hc w hS⟩⟩, hr⟩

/-- What is left, one by one; behind each of them S. -/
def leftList (P : Program) (ops : Array Oper) (Q : Exit → Act → World → Prop) (S : World → Prop) (L : Act → World → Prop) : List Oper → Act → World → Prop
  | [], a, w => L a w
  | o :: rest, a, w => if Region.wanted o (yielded ops a.tmps) then o.wp P a w (fun a' w' => S w' ∧ leftList P ops Q S L rest a' w') Q else False
theorem leftList_step {L : Act → World → Prop} {a : Act} {w : World} {o : Oper} {rest : List Oper} (h : ∀ K : Act → World → Prop, (∀ a w, S w → leftList P ops Q S L rest a w → K a w) → if Region.wanted o (yielded ops a.tmps) then o.wp P a w K Q else K (a.put o.dst undef) w) (hw : Region.wanted o (yielded ops a.tmps) = true) : leftList P ops Q S L (o :: rest) a w := by
  have h2 := h (fun a' w' => S w' ∧ leftList P ops Q S L rest a' w') (fun a w h1 h2 => ⟨h1, h2⟩)
  rw [if_pos hw] at h2
  simp only [leftList, hw, if_true]
  exact h2
theorem leftList_nil {L : Act → World → Prop} {a : Act} {w : World} (h : L a w) : leftList P ops Q S L [] a w := h

/-- The last ones come one by one, in the order of ts, all from k on. -/
def lastB (md : Region.Mode) (ops : Array Oper) (k : Nat) : List Nat → Array Bool → Bool
  | [], listed => (Region.ready md ops listed).isEmpty
  | t :: ts, listed => decide (k ≤ t) && decide (Region.ready md ops listed = [t]) && lastB md ops k ts (listed.setIfInBounds t true)
/-- The left ones come one by one, in the order of us, and then the last ones. -/
def leftB (md : Region.Mode) (ops : Array Oper) (k : Nat) (ts : List Nat) : List Nat → Array Bool → Bool
  | [], listed => lastB md ops k ts listed
  | t :: us, listed => decide (Region.ready md ops listed = [t]) && leftB md ops k ts us (listed.setIfInBounds t true)
/-- The taken ones may come up, each when its turn is, and nobody touches them. -/
def tknB (md : Region.Mode) (ops : Array Oper) (k : Nat) (us ts : List Nat) : List Nat → Array Bool → Bool
  | [], listed => leftB md ops k ts us listed
  | i :: is, listed => decide (i < k) && (Region.ready md ops listed).contains i && Region.free md ops listed i && tknB md ops k us ts is (listed.setIfInBounds i true)
def opsAt (l : List Oper) (is : List Nat) : List Oper := is.filterMap fun i => l[i]?

theorem last_sound {k : Nat} {l : List Oper} : ∀ (ts : List Nat) (listed : Array Bool) (a : Act) (w : World), lastB md l.toArray k ts listed = true → wpList P l.toArray Q (opsAt l ts) a w → wpAnyK P md l.toArray Q S k ts.length listed a w
  | [], listed, a, w, hB, h => ⟨by simpa [lastB] using hB, by simpa [opsAt, wpList] using h⟩
  | t :: ts, listed, a, w, hB, h => by
    simp only [lastB, Bool.and_eq_true, decide_eq_true_eq] at hB
    obtain ⟨⟨hk, hr⟩, hB2⟩ := hB
    have ht : t ∈ Region.ready md l.toArray listed := by rw [hr]; simp
    obtain ⟨_, o, ho, _⟩ := mem_ready.1 ht
    have ho2 : l[t]? = some o := by simpa using ho
    have h2 : wpList P l.toArray Q (o :: opsAt l ts) a w := by simpa [opsAt, ho2] using h
    refine ⟨fun h0 => (by rw [h0] at hr; cases hr), fun i hi => ?_⟩
    rw [hr] at hi
    have hit : i = t := by simpa using hi
    subst hit
    have hw : wpOp P l.toArray Q i (wpList P l.toArray Q (opsAt l ts)) a w := by unfold Go.wpOp; simp only [ho]; exact h2
    exact wpOp_mono (fun a' w' h' => ⟨fun hne => absurd hne (by omega), last_sound ts _ a' w' hB2 h'⟩) hw

theorem left_sound {k : Nat} {ts : List Nat} {l : List Oper} : ∀ (us : List Nat) (listed : Array Bool) (a : Act) (w : World), leftB md l.toArray k ts us listed = true → leftList P l.toArray Q S (wpList P l.toArray Q (opsAt l ts)) (opsAt l us) a w → wpAnyK P md l.toArray Q S k (us.length + ts.length) listed a w
  | [], listed, a, w, hB, h => by
    simp only [List.length_nil, Nat.zero_add]
    exact last_sound ts listed a w (by simpa [leftB] using hB) (by simpa [opsAt, leftList] using h)
  | t :: us, listed, a, w, hB, h => by
    simp only [leftB, Bool.and_eq_true, decide_eq_true_eq] at hB
    obtain ⟨hr, hB2⟩ := hB
    have ht : t ∈ Region.ready md l.toArray listed := by rw [hr]; simp
    obtain ⟨_, o, ho, _⟩ := mem_ready.1 ht
    have ho2 : l[t]? = some o := by simpa using ho
    have h3 : leftList P l.toArray Q S (wpList P l.toArray Q (opsAt l ts)) (o :: opsAt l us) a w := by simpa [opsAt, ho2] using h
    rw [show (t :: us).length + ts.length = (us.length + ts.length) + 1 from by simp; omega]
    refine ⟨fun h0 => (by rw [h0] at hr; cases hr), fun i hi => ?_⟩
    rw [hr] at hi
    have hit : i = t := by simpa using hi
    subst hit
    simp only [leftList] at h3
    unfold Go.wpOp
    simp only [ho]
    split
    · rename_i hw
      simp only [hw, if_true] at h3
      refine .inl (Oper.wp_mono (fun a' w' h' => ⟨fun _ => h'.1, left_sound us _ a' w' hB2 h'.2⟩) h3)
    · rename_i hw
      rw [if_neg hw] at h3
      exact h3.elim

theorem tkn_sound {k : Nat} {us ts : List Nat} {l : List Oper} {w : World} (hsel : Region.noSelect l.toArray = true) (hs : Region.sinkB md l.toArray k = true) (hc : Region.chainB md l.toArray k = true) (hn : k < l.toArray.size)
    (hQ : ∀ c a d v w, Q (.panic c) (a.put d v) w → Q (.panic c) a w) (hS : S w) :
    ∀ (is : List Nat) (listed : Array Bool) (a : Act), HeadInv md l.toArray k listed → tknB md l.toArray k us ts is listed = true →
    tknList P l.toArray S (fun a' => leftList P l.toArray Q S (wpList P l.toArray Q (opsAt l ts)) (opsAt l us) a' w) (opsAt l is) a → wpAnyK P md l.toArray Q S k (is.length + (us.length + ts.length)) listed a w
  | [], listed, a, _, hB, h => by
    simp only [List.length_nil, Nat.zero_add]
    exact left_sound us listed a w (by simpa [tknB] using hB) (by simpa [opsAt, tknList] using h)
  | i :: is, listed, a, inv, hB, h => by
    simp only [tknB, Bool.and_eq_true, decide_eq_true_eq] at hB
    obtain ⟨⟨⟨hik, hr⟩, hf⟩, hB2⟩ := hB
    have hr2 : i ∈ Region.ready md l.toArray listed := by simpa using hr
    obtain ⟨_, o, ho, _⟩ := mem_ready.1 hr2
    have ho2 : l[i]? = some o := by simpa using ho
    have h2 : tknList P l.toArray S (fun a' => leftList P l.toArray Q S (wpList P l.toArray Q (opsAt l ts)) (opsAt l us) a' w) (o :: opsAt l is) a := by simpa [opsAt, ho2] using h
    obtain ⟨v, hy, h3⟩ := h2
    rw [show (i :: is).length + (us.length + ts.length) = (is.length + (us.length + ts.length)) + 1 from by simp; omega]
    exact wpAnyK_first ho (Region.noSelect_spec hsel) (fun c a w => hQ c a _ _ w) hs hc hn hik _ listed a w inv (Region.free_spec ho hf) hr2 hy hS
      (tkn_sound hsel hs hc hn hQ hS is _ _ (inv.set hr2 hik) hB2 h3)

def tknAllB (ops : Array Oper) (is us ts : List Nat) (k : Nat) : Bool :=
  Region.noSelect ops && decide (k < ops.size) && Region.sinkB .any ops k && Region.chainB .any ops k && decide (is.length + (us.length + ts.length) = ops.size) && tknB .any ops k us ts is (Array.replicate ops.size false)

/-- The law: take the ones of 'is' first, in that order; then those of 'us' one by one, behind each S anew; then those of 'ts' (all from k on), one by one. -/
theorem wp_region_tkn {id : Nat} {a : Act} {w : World} {l : List Oper} (S : World → Prop) (is us ts : List Nat) (k : Nat) (hm : P.follows .mixedOrders = true) (hB : tknAllB l.toArray is us ts k = true)
    (hQ : ∀ c a d v w, Q (.panic c) (a.put d v) w → Q (.panic c) a w) (hS : S w.drew)
    (h : tknList P l.toArray S (fun a' => leftList P l.toArray Q S (wpList P l.toArray Q (opsAt l ts)) (opsAt l us) a' w.drew) (opsAt l is) a) : (Code.region id l.toArray true).wp P Q a w := by
  simp only [tknAllB, Bool.and_eq_true, decide_eq_true_eq] at hB
  obtain ⟨⟨⟨⟨⟨hsel, hn⟩, hs⟩, hc⟩, hlen⟩, hB2⟩ := hB
  have inv0 : HeadInv .any l.toArray k (Array.replicate l.toArray.size false) :=
    ⟨by simp, fun j oj _ hl => (by rw [getD_replicate_false] at hl; cases hl), fun t _ ht => getD_in (by simpa using ht) (getD_replicate_false _ _)⟩
  have H := tkn_sound (P := P) (Q := Q) (S := S) (md := .any) hsel hs hc hn hQ hS is _ a inv0 hB2 h
  rw [hlen] at H
  exact wp_region_any hm (wpAny_of_K _ _ _ _ H)
end
end Go.Proofs.YtnnjajmkfgnhcaaDoor
