/-
  Plain: how a layer of a circuit is wired, told of its list of gates; which error is told of asking it; no program in it.
-/
import Derived.Test.YtbchbmelofojkaaGreatDoorCube
import Derived.Test.YtbchbmelofojkaaGreatDoorCircL
namespace Go.Proofs.YtbchbmelofojkaaGreatDoor
set_option linter.unusedVariables false

/-- The gates as functions of their places. -/
def gM (gs : List GQ) (g : Nat) : Bool := (gs[g]?.map GQ.mul).getD false
def gA (gs : List GQ) (g : Nat) : Nat := (gs[g]?.map fun q => q.a.toNat).getD 0
def gB (gs : List GQ) (g : Nat) : Nat := (gs[g]?.map fun q => q.b.toNat).getD 0
theorem gM_at {gs : List GQ} {g : Nat} {q : GQ} (h : gs[g]? = some q) : gM gs g = q.mul := by rw [gM, h]; rfl
theorem gA_at {gs : List GQ} {g : Nat} {q : GQ} (h : gs[g]? = some q) : gA gs g = q.a.toNat := by rw [gA, h]; rfl
theorem gB_at {gs : List GQ} {g : Nat} {q : GQ} (h : gs[g]? = some q) : gB gs g = q.b.toNat := by rw [gB, h]; rfl
/-- A list's numbers as those of the field. -/
def pK (z : Nat → Int) (j : Nat) : K := kk (z j)
/-- The sum over the first t gates of one sort. -/
def wirP (s : Bool) (gs : List GQ) (l k : Nat) (z x y : Nat → Int) (t : Nat) : K := sK (fun g => if gM gs g = s then eqK (pK z) l g * eqK (pK x) k (gA gs g) * eqK (pK y) k (gB gs g) else 0) t
/-- Value. -/
def wirQ (s : Bool) (gs : List GQ) (l k : Nat) (z x y : Nat → Int) : Int := ofK (wirK s (gM gs) (gA gs) (gB gs) l k (pK z) (pK x) (pK y))
/-- Step. -/
def wstQ (gs : List GQ) (l k : Nat) (z x y : Nat → Int) (vx vy : Int) : Int := ofK (stepK (gM gs) (gA gs) (gB gs) l k (pK z) (pK x) (pK y) (kk vx) (kk vy))
theorem wirP_all (s : Bool) (gs : List GQ) (l k : Nat) (z x y : Nat → Int) : ofK (wirP s gs l k z x y (2 ^ l)) = wirQ s gs l k z x y := rfl
theorem wirP_zero (s : Bool) (gs : List GQ) (l k : Nat) (z x y : Nat → Int) : ofK (wirP s gs l k z x y 0) = 0 := rfl
theorem wir_hit {s : Bool} {gs : List GQ} {l k t : Nat} {z x y : Nat → Int} {q : GQ} {a b : Nat} {p ez ex ey : Int} (h : gs[t]? = some q) (hm : q.mul = s) (ha : q.a = (a : Int)) (hb : q.b = (b : Int)) (hp : p = ofK (wirP s gs l k z x y t))
    (h1 : ez = ofK (eqK (pK z) l t)) (h2 : ex = ofK (eqK (pK x) k a)) (h3 : ey = ofK (eqK (pK y) k b)) :
    addQ p (mulQ ez (mulQ ex ey)) = ofK (wirP s gs l k z x y (t + 1)) ∧ addQ p (mulQ (mulQ ez ex) ey) = ofK (wirP s gs l k z x y (t + 1)) := by
  have e : wirP s gs l k z x y (t + 1) = wirP s gs l k z x y t + eqK (pK z) l t * eqK (pK x) k a * eqK (pK y) k b := by
    show wirP s gs l k z x y t + (if gM gs t = s then eqK (pK z) l t * eqK (pK x) k (gA gs t) * eqK (pK y) k (gB gs t) else 0) = _
    rw [gM_at h, gA_at h, gB_at h, if_pos hm, ha, hb, Int.toNat_natCast, Int.toNat_natCast]
  rw [e, hp, h1, h2, h3]
  constructor
  · rw [addQ_ofK, kk_mulQ, kk_mulQ, kk_ofK, kk_ofK, kk_ofK, kk_ofK]
    congr 1
    grind
  · rw [addQ_ofK, kk_mulQ, kk_mulQ, kk_ofK, kk_ofK, kk_ofK, kk_ofK]
theorem wir_miss {s : Bool} {gs : List GQ} {l k t : Nat} {z x y : Nat → Int} {q : GQ} (h : gs[t]? = some q) (hm : q.mul ≠ s) : wirP s gs l k z x y (t + 1) = wirP s gs l k z x y t := by
  show wirP s gs l k z x y t + (if gM gs t = s then eqK (pK z) l t * eqK (pK x) k (gA gs t) * eqK (pK y) k (gB gs t) else 0) = _
  rw [gM_at h, if_neg hm]
  grind
theorem wirQ_rng (s : Bool) (gs : List GQ) (l k : Nat) (z x y : Nat → Int) : 0 ≤ wirQ s gs l k z x y ∧ wirQ s gs l k z x y ≤ 2305843009213693950 := ofK_rng _
theorem wstQ_rng (gs : List GQ) (l k : Nat) (z x y : Nat → Int) (vx vy : Int) : 0 ≤ wstQ gs l k z x y vx vy ∧ wstQ gs l k z x y vx vy ≤ 2305843009213693950 := ofK_rng _
theorem wst_of (gs : List GQ) (l k : Nat) (z x y : Nat → Int) (vx vy : Int) : addQ (mulQ (wirQ false gs l k z x y) (addQ vx vy)) (mulQ (wirQ true gs l k z x y) (mulQ vx vy)) = wstQ gs l k z x y vx vy := by
  unfold wirQ wstQ stepK
  rw [addQ_ofK, kk_mulQ, kk_mulQ, kk_addQ, kk_mulQ, kk_ofK, kk_ofK]

/-- Layer k, with points of as many numbers as its Log and that below tell. -/
def askOk (c : CQ) (i : Int) (nz nx ny : Nat) (k : Nat) (l : LQ) : Prop := i = (k : Int) ∧ c.layers[k]? = some l ∧ (nz : Int) = l.log ∧ (nx : Int) = belowQ c k ∧ (ny : Int) = belowQ c k
/-- The error of asking layer i. -/
def askE (c : CQ) (i : Int) (nz nx ny : Nat) (e : Int) : Prop :=
  (checkE c e ∧ e ≠ 0) ∨ (c.right ∧ (¬ ∃ k l, askOk c i nz nx ny k l) ∧ e = 1) ∨ (c.right ∧ (∃ k l, askOk c i nz nx ny k l) ∧ e = 0)
theorem askE_one {c : CQ} {i : Int} {nz nx ny : Nat} {e e' : Int} (h : askE c i nz nx ny e) (h' : askE c i nz nx ny e') : e = e' := by
  rcases h with ⟨h1, h2⟩ | ⟨h1, h2, h3⟩ | ⟨h1, h2, h3⟩ <;> rcases h' with ⟨g1, g2⟩ | ⟨g1, g2, g3⟩ | ⟨g1, g2, g3⟩
  · exact checkE_one h1 g1
  · exact absurd (checkE_one h1 (checkE_zero.2 g1)) h2
  · exact absurd (checkE_one h1 (checkE_zero.2 g1)) h2
  · exact absurd (checkE_one g1 (checkE_zero.2 h1)) g2
  · omega
  · exact absurd g2 h2
  · exact absurd (checkE_one g1 (checkE_zero.2 h1)) g2
  · exact absurd h2 g2
  · omega
theorem askE_zero {c : CQ} {i : Int} {nz nx ny : Nat} (h : askE c i nz nx ny 0) : c.right ∧ ∃ k l, askOk c i nz nx ny k l := by
  rcases h with ⟨_, h2⟩ | ⟨_, _, h3⟩ | ⟨h1, h2, _⟩
  · exact absurd rfl h2
  · omega
  · exact ⟨h1, h2⟩
/-- Value's answer, and Step's. -/
def wvlQ (c : CQ) (i : Int) (s : Bool) (z x y : Nat → Int) : Int := match c.layers[i.toNat]? with
  | some l => wirQ s l.gates l.log.toNat (belowQ c i.toNat).toNat z x y
  | none => 0
def wspQ (c : CQ) (i : Int) (z x y : Nat → Int) (vx vy : Int) : Int := match c.layers[i.toNat]? with
  | some l => wstQ l.gates l.log.toNat (belowQ c i.toNat).toNat z x y vx vy
  | none => 0
theorem wvlQ_at {c : CQ} {k : Nat} {l : LQ} (h : c.layers[k]? = some l) (s : Bool) (z x y : Nat → Int) : wvlQ c (k : Int) s z x y = wirQ s l.gates l.log.toNat (belowQ c k).toNat z x y := by
  unfold wvlQ
  rw [Int.toNat_natCast, h]
theorem wspQ_at {c : CQ} {k : Nat} {l : LQ} (h : c.layers[k]? = some l) (z x y : Nat → Int) (vx vy : Int) : wspQ c (k : Int) z x y vx vy = wstQ l.gates l.log.toNat (belowQ c k).toNat z x y vx vy := by
  unfold wspQ
  rw [Int.toNat_natCast, h]
theorem wvlQ_rng (c : CQ) (i : Int) (s : Bool) (z x y : Nat → Int) : 0 ≤ wvlQ c i s z x y ∧ wvlQ c i s z x y ≤ 2305843009213693950 := by
  unfold wvlQ
  split
  · exact wirQ_rng _ _ _ _ _ _ _
  · omega
theorem wspQ_rng (c : CQ) (i : Int) (z x y : Nat → Int) (vx vy : Int) : 0 ≤ wspQ c i z x y vx vy ∧ wspQ c i z x y vx vy ≤ 2305843009213693950 := by
  unfold wspQ
  split
  · exact wstQ_rng _ _ _ _ _ _ _ _
  · omega
theorem stp_of (c : CQ) (i : Int) (z x y : Nat → Int) (vx vy : Int) : addQ (mulQ (wvlQ c i false z x y) (addQ vx vy)) (mulQ (wvlQ c i true z x y) (mulQ vx vy)) = wspQ c i z x y vx vy := by
  unfold wvlQ wspQ
  split
  · exact wst_of _ _ _ _ _ _ _ _
  · rw [addQ_ofK, kk_mulQ, kk_mulQ, show kk 0 = (0 : K) from rfl]
    have e : ∀ a b : K, ofK (0 * a + 0 * b) = 0 := fun a b => by rw [show (0 : K) * a + 0 * b = 0 from by grind]; rfl
    exact e _ _
/-- A layer's values of those below. -/
theorem lay_gate {gs : List GQ} {F : Nat → Int} {j : Nat} (hj : j < gs.length) : kk (layV gs F j) = gateK (gM gs) (gA gs) (gB gs) (fun i => kk (F i)) j := by
  obtain ⟨q, hq⟩ : ∃ q, gs[j]? = some q := ⟨gs[j], by simp⟩
  unfold layV gateK
  rw [hq, gM_at hq, gA_at hq, gB_at hq]
  by_cases h : q.mul = true
  · simp only [h, if_true]
    exact kk_mulQ _ _
  · simp only [h]
    exact kk_addQ _ _

end Go.Proofs.YtbchbmelofojkaaGreatDoor
