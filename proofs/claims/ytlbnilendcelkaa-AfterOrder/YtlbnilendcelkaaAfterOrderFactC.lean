/-
  AfterOrder: what it calls.
-/
import Derived.Test.YtlbnilendcelkaaRows
import Derived.ProofKit
import Derived.OpenShut
import Derived.WalkKit
import Derived.ChangeOld
namespace Go.Proofs.Ytlbnilendcelkaa.afterOrder
open Go.ChangeShapes Go.WideShapes Go.ChangeAt Go.RowKit
theorem unf : (Rows.afterOrderRow.unfollowed == Try.pinned.checked.prog.unfollowed 6) = true := by kernel_rfl
theorem rec : (Rows.afterOrderRow.recurses == Try.pinned.checked.prog.recurses 6) = true := by kernel_rfl
end Go.Proofs.Ytlbnilendcelkaa.afterOrder
