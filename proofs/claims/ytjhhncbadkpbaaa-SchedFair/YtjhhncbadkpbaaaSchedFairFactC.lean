/-
  SchedFair: what it calls.
-/
import Derived.Test.YtjhhncbadkpbaaaRows
import Derived.ProofKit
import Derived.OpenShut
import Derived.WalkKit
import Derived.ChangeOld
namespace Go.Proofs.Ytjhhncbadkpbaaa.schedFair
open Go.ChangeShapes Go.WideShapes Go.ChangeAt Go.RowKit
theorem unf : (Rows.schedFairRow.unfollowed == Try.pinned.checked.prog.unfollowed 7) = true := by kernel_rfl
theorem rec : (Rows.schedFairRow.recurses == Try.pinned.checked.prog.recurses 7) = true := by kernel_rfl
end Go.Proofs.Ytjhhncbadkpbaaa.schedFair
