/-
  CellVersions: what it calls.
-/
import Derived.Test.YtinflodnkopcdaaRows
import Derived.ProofKit
import Derived.OpenShut
import Derived.WalkKit
import Derived.ChangeOld
namespace Go.Proofs.Ytinflodnkopcdaa.cellVersions
open Go.ChangeShapes Go.WideShapes Go.ChangeAt Go.RowKit
theorem unf : (Rows.cellVersionsRow.unfollowed == Try.pinned.checked.prog.unfollowed 6) = true := by kernel_rfl
theorem rec : (Rows.cellVersionsRow.recurses == Try.pinned.checked.prog.recurses 6) = true := by kernel_rfl
end Go.Proofs.Ytinflodnkopcdaa.cellVersions
