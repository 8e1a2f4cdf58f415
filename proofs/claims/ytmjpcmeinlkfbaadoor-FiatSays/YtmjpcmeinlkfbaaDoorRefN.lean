/-
  Contracts of the document's own answer on numbers (package tallyref: Norm), each for every input: they answer what the functions of the text Ops tell, and leave the world as it was.
-/
import Derived.Test.YtmjpcmeinlkfbaaDoorChecked
import Derived.Test.YtmjpcmeinlkfbaaDoorOps
import Derived.WalkKit
namespace Go.Proofs.YtmjpcmeinlkfbaaDoor
open Go.RowKit
set_option linter.unusedVariables false

set_option maxHeartbeats 400000 in
theorem rnorm_any (a : Int) (w : World) (h0 : 0 ≤ a) (h1 : a ≤ 18446744073709551615) :
    Calls Tryd.prog 52 #[.int .u64 a] w fun e w' => e = .returned (.int .u64 (nrm a)) ∧ w' = w := by
  go_enter Tryd.func52, Tryd.ntmps52
  go_wp2
  go_ret
  exact ⟨rfl, rfl⟩

end Go.Proofs.YtmjpcmeinlkfbaaDoor
