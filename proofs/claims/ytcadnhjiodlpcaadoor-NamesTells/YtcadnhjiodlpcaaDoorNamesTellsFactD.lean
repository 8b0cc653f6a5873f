/-
  NamesTells: what it names.
-/
import Derived.Test.YtcadnhjiodlpcaaDoorRows
import Derived.ProofKit
import Derived.OpenShut
import Derived.WalkKit
import Derived.ChangeOld
namespace Go.Proofs.YtcadnhjiodlpcaaDoor.namesTells
open Go.ChangeShapes Go.WideShapes Go.ChangeAt Go.RowKit
theorem inp : (Rows.namesTellsRow.inPlace == Tryd.pinned.checked.prog.inPlace 4) = true := by kernel_rfl
theorem nmd : (Rows.namesTellsRow.named == Tryd.pinned.checked.prog.varsNamed 4) = true := by kernel_rfl
end Go.Proofs.YtcadnhjiodlpcaaDoor.namesTells
