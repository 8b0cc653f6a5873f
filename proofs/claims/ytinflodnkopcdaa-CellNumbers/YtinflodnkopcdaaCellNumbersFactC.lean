/-
  CellNumbers: what it calls.
-/
import Derived.Test.YtinflodnkopcdaaRows
import Derived.ProofKit
import Derived.OpenShut
import Derived.WalkKit
import Derived.ChangeOld
namespace Go.Proofs.Ytinflodnkopcdaa.cellNumbers
open Go.ChangeShapes Go.WideShapes Go.ChangeAt Go.RowKit
theorem unf : (Rows.cellNumbersRow.unfollowed == Try.pinned.checked.prog.unfollowed 3) = true := by kernel_rfl
theorem rec : (Rows.cellNumbersRow.recurses == Try.pinned.checked.prog.recurses 3) = true := by kernel_rfl
end Go.Proofs.Ytinflodnkopcdaa.cellNumbers
