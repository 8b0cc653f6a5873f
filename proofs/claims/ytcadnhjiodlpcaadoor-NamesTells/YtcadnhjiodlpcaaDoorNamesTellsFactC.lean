/-
  NamesTells: what it calls.
-/
import Derived.Test.YtcadnhjiodlpcaaDoorRows
import Derived.ProofKit
import Derived.OpenShut
import Derived.WalkKit
import Derived.ChangeOld
namespace Go.Proofs.YtcadnhjiodlpcaaDoor.namesTells
open Go.ChangeShapes Go.WideShapes Go.ChangeAt Go.RowKit
theorem unf : (Rows.namesTellsRow.unfollowed == Tryd.pinned.checked.prog.unfollowed 4) = true := by kernel_rfl
theorem rec : (Rows.namesTellsRow.recurses == Tryd.pinned.checked.prog.recurses 4) = true := by kernel_rfl
end Go.Proofs.YtcadnhjiodlpcaaDoor.namesTells
