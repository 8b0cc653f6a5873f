/-
  SchedNone: what it calls.
-/
import Derived.Test.YtjhhncbadkpbaaaRows
import Derived.ProofKit
import Derived.OpenShut
import Derived.WalkKit
import Derived.ChangeOld
namespace Go.Proofs.Ytjhhncbadkpbaaa.schedNone
open Go.ChangeShapes Go.WideShapes Go.ChangeAt Go.RowKit
theorem unf : (Rows.schedNoneRow.unfollowed == Try.pinned.checked.prog.unfollowed 5) = true := by kernel_rfl
theorem rec : (Rows.schedNoneRow.recurses == Try.pinned.checked.prog.recurses 5) = true := by kernel_rfl
end Go.Proofs.Ytjhhncbadkpbaaa.schedNone
