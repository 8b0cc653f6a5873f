/-
  AfterNumbers: what it calls.
-/
import Derived.Test.YtlbnilendcelkaaRows
import Derived.ProofKit
import Derived.OpenShut
import Derived.WalkKit
import Derived.ChangeOld
namespace Go.Proofs.Ytlbnilendcelkaa.afterNumbers
open Go.ChangeShapes Go.WideShapes Go.ChangeAt Go.RowKit
theorem unf : (Rows.afterNumbersRow.unfollowed == Try.pinned.checked.prog.unfollowed 3) = true := by kernel_rfl
theorem rec : (Rows.afterNumbersRow.recurses == Try.pinned.checked.prog.recurses 3) = true := by kernel_rfl
end Go.Proofs.Ytlbnilendcelkaa.afterNumbers
