/-
  NestNone: what it names.
-/
import Derived.Test.YtbpbclmlkdnfbaaRows
import Derived.ProofKit
import Derived.OpenShut
import Derived.WalkKit
import Derived.ChangeOld
namespace Go.Proofs.Ytbpbclmlkdnfbaa.nestNone
open Go.ChangeShapes Go.WideShapes Go.ChangeAt Go.RowKit
theorem inp : (Rows.nestNoneRow.inPlace == Try.pinned.checked.prog.inPlace 6) = true := by kernel_rfl
theorem nmd : (Rows.nestNoneRow.named == Try.pinned.checked.prog.varsNamed 6) = true := by kernel_rfl
end Go.Proofs.Ytbpbclmlkdnfbaa.nestNone
