/-
  CellOwners: what it calls.
-/
import Derived.Test.YtinflodnkopcdaaRows
import Derived.ProofKit
import Derived.OpenShut
import Derived.WalkKit
import Derived.ChangeOld
namespace Go.Proofs.Ytinflodnkopcdaa.cellOwners
open Go.ChangeShapes Go.WideShapes Go.ChangeAt Go.RowKit
theorem unf : (Rows.cellOwnersRow.unfollowed == Try.pinned.checked.prog.unfollowed 7) = true := by kernel_rfl
theorem rec : (Rows.cellOwnersRow.recurses == Try.pinned.checked.prog.recurses 7) = true := by kernel_rfl
end Go.Proofs.Ytinflodnkopcdaa.cellOwners
