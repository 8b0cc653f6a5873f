/-
  CellVersions: what it names.
-/
import Derived.Test.YtinflodnkopcdaaRows
import Derived.ProofKit
import Derived.OpenShut
import Derived.WalkKit
import Derived.ChangeOld
namespace Go.Proofs.Ytinflodnkopcdaa.cellVersions
open Go.ChangeShapes Go.WideShapes Go.ChangeAt Go.RowKit
theorem inp : (Rows.cellVersionsRow.inPlace == Try.pinned.checked.prog.inPlace 6) = true := by kernel_rfl
theorem nmd : (Rows.cellVersionsRow.named == Try.pinned.checked.prog.varsNamed 6) = true := by kernel_rfl
end Go.Proofs.Ytinflodnkopcdaa.cellVersions
