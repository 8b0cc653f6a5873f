/-
  AfterNone: what it calls.
-/
import Derived.Test.YtlbnilendcelkaaRows
import Derived.ProofKit
import Derived.OpenShut
import Derived.WalkKit
import Derived.ChangeOld
namespace Go.Proofs.Ytlbnilendcelkaa.afterNone
open Go.ChangeShapes Go.WideShapes Go.ChangeAt Go.RowKit
theorem unf : (Rows.afterNoneRow.unfollowed == Try.pinned.checked.prog.unfollowed 5) = true := by kernel_rfl
theorem rec : (Rows.afterNoneRow.recurses == Try.pinned.checked.prog.recurses 5) = true := by kernel_rfl
end Go.Proofs.Ytlbnilendcelkaa.afterNone
