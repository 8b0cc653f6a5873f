/-
  NamesNumbers: what it calls.
-/
import Derived.Test.YtcadnhjiodlpcaaDoorRows
import Derived.ProofKit
import Derived.OpenShut
import Derived.WalkKit
import Derived.ChangeOld
namespace Go.Proofs.YtcadnhjiodlpcaaDoor.namesNumbers
open Go.ChangeShapes Go.WideShapes Go.ChangeAt Go.RowKit
theorem unf : (Rows.namesNumbersRow.unfollowed == Tryd.pinned.checked.prog.unfollowed 3) = true := by kernel_rfl
theorem rec : (Rows.namesNumbersRow.recurses == Tryd.pinned.checked.prog.recurses 3) = true := by kernel_rfl
end Go.Proofs.YtcadnhjiodlpcaaDoor.namesNumbers
