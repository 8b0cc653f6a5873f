/-
  WaitElse: what it names.
-/
import Derived.Test.YtafiopjgegmfoaaGreatRows
import Derived.ProofKit
import Derived.OpenShut
import Derived.WalkKit
import Derived.ChangeOld
namespace Go.Proofs.YtafiopjgegmfoaaGreat.waitElse
open Go.ChangeShapes Go.WideShapes Go.ChangeAt Go.RowKit
theorem inp : (Rows.waitElseRow.inPlace == Tryz.pinned.checked.prog.inPlace 5) = true := by kernel_rfl
theorem nmd : (Rows.waitElseRow.named == Tryz.pinned.checked.prog.varsNamed 5) = true := by kernel_rfl
end Go.Proofs.YtafiopjgegmfoaaGreat.waitElse
