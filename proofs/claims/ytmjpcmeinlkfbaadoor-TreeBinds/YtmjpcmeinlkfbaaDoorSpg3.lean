/-
  Plain: what a new sponge of the word 1 tells first: it is not 0; and Take of a list of whatever length.
-/
import Derived.Test.YtmjpcmeinlkfbaaDoorSpg2
namespace Go.Proofs.YtmjpcmeinlkfbaaDoor
open Go.RowKit
set_option linter.unusedVariables false

def v3 (a b c : K) (k : Nat) : K := if k = 0 then a else if k = 1 then b else c
theorem v3_step {g : Nat → K} {n : Nat} {a b c a' b' c' : K} (h : ∀ k, k < 3 → mixK g n k = v3 a b c k) (e : turnK (n + 1) (v3 a b c) 0 = a' ∧ turnK (n + 1) (v3 a b c) 1 = b' ∧ turnK (n + 1) (v3 a b c) 2 = c') : ∀ k, k < 3 → mixK g (n + 1) k = v3 a' b' c' k := by
  intro k hk
  show turnK (n + 1) (mixK g n) k = _
  rw [turnK_congr (n + 1) k hk h]
  match k, hk with
  | 0, _ => exact e.1
  | 1, _ => exact e.2.1
  | 2, _ => exact e.2.2
theorem new_one : mixed (newK 1) 1 = 1669116742769714087 := by
  have h0 : ∀ k, k < 3 → mixK (newK 1) 0 k = v3 0 1 1 k := fun k hk => by
    match k, hk with
    | 0, _ => rfl
    | 1, _ => rfl
    | 2, _ => rfl
  have h1 := v3_step (a' := 17309009349) (b' := 17438149511) (c' := 34488878532) h0 (by decide +kernel)
  have h2 := v3_step (a' := 1573814559549188993) (b' := 715743805754807860) (c' := 1788218144668059710) h1 (by decide +kernel)
  have h3 := v3_step (a' := 216506331245268182) (b' := 1400893509095417574) (c' := 2001818938228197229) h2 (by decide +kernel)
  have h4 := v3_step (a' := 487761997562441572) (b' := 1609402419519888973) (c' := 2260444883116086776) h3 (by decide +kernel)
  have h5 := v3_step (a' := 644698438108695660) (b' := 1719309461503627782) (c' := 1699817507873481296) h4 (by decide +kernel)
  have h6 := v3_step (a' := 1938174909269888829) (b' := 1259100607534908340) (c' := 2127548290031924251) h5 (by decide +kernel)
  have h7 := v3_step (a' := 2209722413685827084) (b' := 1500207906989657873) (c' := 986607135423452686) h6 (by decide +kernel)
  have h8 := v3_step (a' := 2131637896081591315) (b' := 1669116742769714087) (c' := 80801863418079052) h7 (by decide +kernel)
  exact h8 1 (by omega)
theorem new_one_ne : ofK (mixed (newK 1) 1) ≠ 0 := by rw [new_one]; decide +kernel

/-- What Take answers of a list of n numbers, and what the sponge's numbers are behind it. -/
def tkE (n : Nat) : Int := if n ≤ 1000 then 0 else 2
def tkK (g : Nat → K) (n : Nat) (f : Nat → Int) : Nat → K := if n ≤ 1000 then takesK g n f n else g
theorem take_all (b : Nat) (g : Nat → K) (ao : Option Addr) (n cap : Nat) (f : Nat → Int) (w : World) (hr : Row w b 0 3 (numsK g)) (hf : Free w b 0 3) (hp : PRow w ao n f) (hv : Nums f) (hne : 0 < n → ∀ c o, ao = some ⟨c, o, none⟩ → c ≠ b) :
    Calls Tryd.prog 60 #[.pointer (some ⟨b, 0, none⟩), .slice ao n cap] w fun e w' => e = .returned (.int .i64 (tkE n)) ∧ Turned b w w' ∧ Row w' b 0 3 (numsK (tkK g n f)) ∧ Free w' b 0 3 := by
  unfold tkE tkK
  by_cases h : n ≤ 1000
  · rw [if_pos h, if_pos h]
    exact take_any b g ao n cap f w hr hf h hp hv hne
  · rw [if_neg h, if_neg h]
    refine (take_large b n cap ao w (by omega)).mono ?_
    rintro e w' ⟨rfl, rfl⟩
    exact ⟨rfl, Turned.refl _ _, hr, hf⟩

end Go.Proofs.YtmjpcmeinlkfbaaDoor
