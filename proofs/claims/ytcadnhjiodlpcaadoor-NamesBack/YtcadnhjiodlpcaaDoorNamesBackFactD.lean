/-
  NamesBack: what it names.
-/
import Derived.Test.YtcadnhjiodlpcaaDoorRows
import Derived.ProofKit
import Derived.OpenShut
import Derived.WalkKit
import Derived.ChangeOld
namespace Go.Proofs.YtcadnhjiodlpcaaDoor.namesBack
open Go.ChangeShapes Go.WideShapes Go.ChangeAt Go.RowKit
theorem inp : (Rows.namesBackRow.inPlace == Tryd.pinned.checked.prog.inPlace 5) = true := by kernel_rfl
theorem nmd : (Rows.namesBackRow.named == Tryd.pinned.checked.prog.varsNamed 5) = true := by kernel_rfl
end Go.Proofs.YtcadnhjiodlpcaaDoor.namesBack
