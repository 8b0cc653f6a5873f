/-
  CellNumbers: what it names.
-/
import Derived.Test.YtinflodnkopcdaaRows
import Derived.ProofKit
import Derived.OpenShut
import Derived.WalkKit
import Derived.ChangeOld
namespace Go.Proofs.Ytinflodnkopcdaa.cellNumbers
open Go.ChangeShapes Go.WideShapes Go.ChangeAt Go.RowKit
theorem inp : (Rows.cellNumbersRow.inPlace == Try.pinned.checked.prog.inPlace 3) = true := by kernel_rfl
theorem nmd : (Rows.cellNumbersRow.named == Try.pinned.checked.prog.varsNamed 3) = true := by kernel_rfl
end Go.Proofs.Ytinflodnkopcdaa.cellNumbers
