/-
  CellTells: what it names.
-/
import Derived.Test.YtinflodnkopcdaaRows
import Derived.ProofKit
import Derived.OpenShut
import Derived.WalkKit
import Derived.ChangeOld
namespace Go.Proofs.Ytinflodnkopcdaa.cellTells
open Go.ChangeShapes Go.WideShapes Go.ChangeAt Go.RowKit
theorem inp : (Rows.cellTellsRow.inPlace == Try.pinned.checked.prog.inPlace 4) = true := by kernel_rfl
theorem nmd : (Rows.cellTellsRow.named == Try.pinned.checked.prog.varsNamed 4) = true := by kernel_rfl
end Go.Proofs.Ytinflodnkopcdaa.cellTells
