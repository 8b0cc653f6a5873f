/-
  NestNumbers: what it names.
-/
import Derived.Test.YtbpbclmlkdnfbaaRows
import Derived.ProofKit
import Derived.OpenShut
import Derived.WalkKit
import Derived.ChangeOld
namespace Go.Proofs.Ytbpbclmlkdnfbaa.nestNumbers
open Go.ChangeShapes Go.WideShapes Go.ChangeAt Go.RowKit
theorem inp : (Rows.nestNumbersRow.inPlace == Try.pinned.checked.prog.inPlace 5) = true := by kernel_rfl
theorem nmd : (Rows.nestNumbersRow.named == Try.pinned.checked.prog.varsNamed 5) = true := by kernel_rfl
end Go.Proofs.Ytbpbclmlkdnfbaa.nestNumbers
