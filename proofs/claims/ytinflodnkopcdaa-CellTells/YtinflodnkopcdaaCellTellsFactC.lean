/-
  CellTells: what it calls.
-/
import Derived.Test.YtinflodnkopcdaaRows
import Derived.ProofKit
import Derived.OpenShut
import Derived.WalkKit
import Derived.ChangeOld
namespace Go.Proofs.Ytinflodnkopcdaa.cellTells
open Go.ChangeShapes Go.WideShapes Go.ChangeAt Go.RowKit
theorem unf : (Rows.cellTellsRow.unfollowed == Try.pinned.checked.prog.unfollowed 4) = true := by kernel_rfl
theorem rec : (Rows.cellTellsRow.recurses == Try.pinned.checked.prog.recurses 4) = true := by kernel_rfl
end Go.Proofs.Ytinflodnkopcdaa.cellTells
