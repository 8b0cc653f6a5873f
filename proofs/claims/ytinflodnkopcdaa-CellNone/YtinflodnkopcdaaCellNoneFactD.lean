/-
  CellNone: what it names.
-/
import Derived.Test.YtinflodnkopcdaaRows
import Derived.ProofKit
import Derived.OpenShut
import Derived.WalkKit
import Derived.ChangeOld
namespace Go.Proofs.Ytinflodnkopcdaa.cellNone
open Go.ChangeShapes Go.WideShapes Go.ChangeAt Go.RowKit
theorem inp : (Rows.cellNoneRow.inPlace == Try.pinned.checked.prog.inPlace 5) = true := by kernel_rfl
theorem nmd : (Rows.cellNoneRow.named == Try.pinned.checked.prog.varsNamed 5) = true := by kernel_rfl
end Go.Proofs.Ytinflodnkopcdaa.cellNone
