/-
  The document's own Need, line and Shaped, together.
-/
import Derived.Test.YtmhifjdgfhgajacDoorRefGk1
import Derived.Test.YtmhifjdgfhgajacDoorRefSh
namespace Go.Proofs.YtmhifjdgfhgajacDoor
end Go.Proofs.YtmhifjdgfhgajacDoor
