/-
  AfterOrder: what it names.
-/
import Derived.Test.YtlbnilendcelkaaRows
import Derived.ProofKit
import Derived.OpenShut
import Derived.WalkKit
import Derived.ChangeOld
namespace Go.Proofs.Ytlbnilendcelkaa.afterOrder
open Go.ChangeShapes Go.WideShapes Go.ChangeAt Go.RowKit
theorem inp : (Rows.afterOrderRow.inPlace == Try.pinned.checked.prog.inPlace 6) = true := by kernel_rfl
theorem nmd : (Rows.afterOrderRow.named == Try.pinned.checked.prog.varsNamed 6) = true := by kernel_rfl
end Go.Proofs.Ytlbnilendcelkaa.afterOrder
