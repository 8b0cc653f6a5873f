/-
  AfterNumbers: what it names.
-/
import Derived.Test.YtlbnilendcelkaaRows
import Derived.ProofKit
import Derived.OpenShut
import Derived.WalkKit
import Derived.ChangeOld
namespace Go.Proofs.Ytlbnilendcelkaa.afterNumbers
open Go.ChangeShapes Go.WideShapes Go.ChangeAt Go.RowKit
theorem inp : (Rows.afterNumbersRow.inPlace == Try.pinned.checked.prog.inPlace 3) = true := by kernel_rfl
theorem nmd : (Rows.afterNumbersRow.named == Try.pinned.checked.prog.varsNamed 3) = true := by kernel_rfl
end Go.Proofs.Ytlbnilendcelkaa.afterNumbers
