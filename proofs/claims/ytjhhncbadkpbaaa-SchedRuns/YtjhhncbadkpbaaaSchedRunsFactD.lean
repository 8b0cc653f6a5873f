/-
  SchedRuns: what it names.
-/
import Derived.Test.YtjhhncbadkpbaaaRows
import Derived.ProofKit
import Derived.OpenShut
import Derived.WalkKit
import Derived.ChangeOld
namespace Go.Proofs.Ytjhhncbadkpbaaa.schedRuns
open Go.ChangeShapes Go.WideShapes Go.ChangeAt Go.RowKit
theorem inp : (Rows.schedRunsRow.inPlace == Try.pinned.checked.prog.inPlace 4) = true := by kernel_rfl
theorem nmd : (Rows.schedRunsRow.named == Try.pinned.checked.prog.varsNamed 4) = true := by kernel_rfl
end Go.Proofs.Ytjhhncbadkpbaaa.schedRuns
