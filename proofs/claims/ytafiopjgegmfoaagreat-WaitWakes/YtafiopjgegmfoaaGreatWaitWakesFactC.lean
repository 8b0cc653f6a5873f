/-
  WaitWakes: what it calls.
-/
import Derived.Test.YtafiopjgegmfoaaGreatRows
import Derived.ProofKit
import Derived.OpenShut
import Derived.WalkKit
import Derived.ChangeOld
namespace Go.Proofs.YtafiopjgegmfoaaGreat.waitWakes
open Go.ChangeShapes Go.WideShapes Go.ChangeAt Go.RowKit
theorem unf : (Rows.waitWakesRow.unfollowed == Tryz.pinned.checked.prog.unfollowed 4) = true := by kernel_rfl
theorem rec : (Rows.waitWakesRow.recurses == Tryz.pinned.checked.prog.recurses 4) = true := by kernel_rfl
end Go.Proofs.YtafiopjgegmfoaaGreat.waitWakes
