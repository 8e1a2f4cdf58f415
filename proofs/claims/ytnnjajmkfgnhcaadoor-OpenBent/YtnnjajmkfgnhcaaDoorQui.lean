/-
  A region that draws its order, whose operations only read and whose callees make memory but write nothing that was there, and hand back values that don't hang on where that is: one walk, in the text's order, serves every order (the class of worlds of the kit's theorem on quiet regions: those that keep what was there); no program in it.
-/
import Derived.Test.YtnnjajmkfgnhcaaDoorMem
import Derived.BigQuiet
namespace Go.Proofs.YtnnjajmkfgnhcaaDoor
open Go.RowKit
set_option linter.unusedVariables false

/-- The worlds in which S holds, and that keep what W has. -/
structure QT (W : World) (S : World → Prop) where
  w : World
  s : S w
  b : Below W.heap.size W w
theorem QT.ne {W : World} {S : World → Prop} (h : S W.drew) : Nonempty (QT W S) := ⟨⟨W.drew, h, (Below.refl _ W).drew⟩⟩
theorem wp_region_grown {P : Program} {id : Nat} {Q : Exit → Act → World → Prop} {a : Act} {w : World} {l : List Oper} (S : World → Prop) (hm : P.follows .mixedOrders = true) (hB : Region.lexB .any l.toArray = true) (hS : S w.drew)
    (h : wpQuiet P l.toArray (fun w' => ∃ t : QT w S, w' = t.w) (fun a' => ∀ w', (∃ t : QT w S, w' = t.w) → Q .normal a' w') l a) : (Code.region id l.toArray true).wp P Q a w :=
  wp_region_quiet (C := fun w' => ∃ t : QT w S, w' = t.w) hm hB ⟨⟨w.drew, hS, (Below.refl _ w).drew⟩, rfl⟩ (by simpa using h)
/-- A callee's contract, met in a world of the class. -/
theorem Calls.grown_of {P : Program} {f : FuncId} {args : Array Value} {W : World} {S : World → Prop} {t : QT W S} {v : Value}
    (h : Calls P f args t.w fun e w' => e = .returned v ∧ Below t.w.heap.size t.w w') (hS : ∀ w', Below t.w.heap.size t.w w' → S w') : Calls P f args t.w fun e w'' => e = .returned v ∧ ∃ t' : QT W S, w'' = t'.w :=
  h.mono fun _ w' ⟨he, hb⟩ => ⟨he, ⟨w', hS w' hb, t.b.trans (hb.mono t.b.size)⟩, rfl⟩
theorem Calls.grown_same {P : Program} {f : FuncId} {args : Array Value} {W : World} {S : World → Prop} {t : QT W S} {v : Value}
    (h : Calls P f args t.w fun e w' => e = .returned v ∧ w' = t.w) : Calls P f args t.w fun e w'' => e = .returned v ∧ ∃ t' : QT W S, w'' = t'.w :=
  h.mono fun _ w' ⟨he, hb⟩ => ⟨he, t, hb⟩

end Go.Proofs.YtnnjajmkfgnhcaaDoor
