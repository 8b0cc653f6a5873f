/-
  SchedSteps: what it names.
-/
import Derived.Test.YtjhhncbadkpbaaaRows
import Derived.ProofKit
import Derived.OpenShut
import Derived.WalkKit
import Derived.ChangeOld
namespace Go.Proofs.Ytjhhncbadkpbaaa.schedSteps
open Go.ChangeShapes Go.WideShapes Go.ChangeAt Go.RowKit
theorem inp : (Rows.schedStepsRow.inPlace == Try.pinned.checked.prog.inPlace 6) = true := by kernel_rfl
theorem nmd : (Rows.schedStepsRow.named == Try.pinned.checked.prog.varsNamed 6) = true := by kernel_rfl
end Go.Proofs.Ytjhhncbadkpbaaa.schedSteps
