/-
  NamesBack: what it calls.
-/
import Derived.Test.YtcadnhjiodlpcaaDoorRows
import Derived.ProofKit
import Derived.OpenShut
import Derived.WalkKit
import Derived.ChangeOld
namespace Go.Proofs.YtcadnhjiodlpcaaDoor.namesBack
open Go.ChangeShapes Go.WideShapes Go.ChangeAt Go.RowKit
theorem unf : (Rows.namesBackRow.unfollowed == Tryd.pinned.checked.prog.unfollowed 5) = true := by kernel_rfl
theorem rec : (Rows.namesBackRow.recurses == Tryd.pinned.checked.prog.recurses 5) = true := by kernel_rfl
end Go.Proofs.YtcadnhjiodlpcaaDoor.namesBack
