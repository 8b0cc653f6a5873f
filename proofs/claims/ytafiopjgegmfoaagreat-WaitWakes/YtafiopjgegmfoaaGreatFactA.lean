/-
  The program: how its types lie.
-/
import Derived.Test.YtafiopjgegmfoaaGreatRows
import Derived.ProofKit
import Derived.OpenShut
import Derived.WalkKit
import Derived.ChangeOld
namespace Go.Proofs.YtafiopjgegmfoaaGreat.V
open Go.ChangeShapes Go.WideShapes Go.ChangeAt Go.RowKit
theorem laidOut : laidOutB Tryz.pinned.checked.prog = true := by kernel_rfl
end Go.Proofs.YtafiopjgegmfoaaGreat.V
