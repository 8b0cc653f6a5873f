/-
  NamesUp: what it calls.
-/
import Derived.Test.YtcadnhjiodlpcaaDoorRows
import Derived.ProofKit
import Derived.OpenShut
import Derived.WalkKit
import Derived.ChangeOld
namespace Go.Proofs.YtcadnhjiodlpcaaDoor.namesUp
open Go.ChangeShapes Go.WideShapes Go.ChangeAt Go.RowKit
theorem unf : (Rows.namesUpRow.unfollowed == Tryd.pinned.checked.prog.unfollowed 6) = true := by kernel_rfl
theorem rec : (Rows.namesUpRow.recurses == Tryd.pinned.checked.prog.recurses 6) = true := by kernel_rfl
end Go.Proofs.YtcadnhjiodlpcaaDoor.namesUp
