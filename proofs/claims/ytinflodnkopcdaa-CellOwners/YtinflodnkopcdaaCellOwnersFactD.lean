/-
  CellOwners: what it names.
-/
import Derived.Test.YtinflodnkopcdaaRows
import Derived.ProofKit
import Derived.OpenShut
import Derived.WalkKit
import Derived.ChangeOld
namespace Go.Proofs.Ytinflodnkopcdaa.cellOwners
open Go.ChangeShapes Go.WideShapes Go.ChangeAt Go.RowKit
theorem inp : (Rows.cellOwnersRow.inPlace == Try.pinned.checked.prog.inPlace 7) = true := by kernel_rfl
theorem nmd : (Rows.cellOwnersRow.named == Try.pinned.checked.prog.varsNamed 7) = true := by kernel_rfl
end Go.Proofs.Ytinflodnkopcdaa.cellOwners
