/-
  NamesNumbers: what it names.
-/
import Derived.Test.YtcadnhjiodlpcaaDoorRows
import Derived.ProofKit
import Derived.OpenShut
import Derived.WalkKit
import Derived.ChangeOld
namespace Go.Proofs.YtcadnhjiodlpcaaDoor.namesNumbers
open Go.ChangeShapes Go.WideShapes Go.ChangeAt Go.RowKit
theorem inp : (Rows.namesNumbersRow.inPlace == Tryd.pinned.checked.prog.inPlace 3) = true := by kernel_rfl
theorem nmd : (Rows.namesNumbersRow.named == Tryd.pinned.checked.prog.varsNamed 3) = true := by kernel_rfl
end Go.Proofs.YtcadnhjiodlpcaaDoor.namesNumbers
