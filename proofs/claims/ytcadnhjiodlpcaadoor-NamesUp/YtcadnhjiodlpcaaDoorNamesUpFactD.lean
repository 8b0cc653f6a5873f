/-
  NamesUp: what it names.
-/
import Derived.Test.YtcadnhjiodlpcaaDoorRows
import Derived.ProofKit
import Derived.OpenShut
import Derived.WalkKit
import Derived.ChangeOld
namespace Go.Proofs.YtcadnhjiodlpcaaDoor.namesUp
open Go.ChangeShapes Go.WideShapes Go.ChangeAt Go.RowKit
theorem inp : (Rows.namesUpRow.inPlace == Tryd.pinned.checked.prog.inPlace 6) = true := by kernel_rfl
theorem nmd : (Rows.namesUpRow.named == Tryd.pinned.checked.prog.varsNamed 6) = true := by kernel_rfl
end Go.Proofs.YtcadnhjiodlpcaaDoor.namesUp
