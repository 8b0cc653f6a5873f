/-
  SchedRuns: what it calls.
-/
import Derived.Test.YtjhhncbadkpbaaaRows
import Derived.ProofKit
import Derived.OpenShut
import Derived.WalkKit
import Derived.ChangeOld
namespace Go.Proofs.Ytjhhncbadkpbaaa.schedRuns
open Go.ChangeShapes Go.WideShapes Go.ChangeAt Go.RowKit
theorem unf : (Rows.schedRunsRow.unfollowed == Try.pinned.checked.prog.unfollowed 4) = true := by kernel_rfl
theorem rec : (Rows.schedRunsRow.recurses == Try.pinned.checked.prog.recurses 4) = true := by kernel_rfl
end Go.Proofs.Ytjhhncbadkpbaaa.schedRuns
