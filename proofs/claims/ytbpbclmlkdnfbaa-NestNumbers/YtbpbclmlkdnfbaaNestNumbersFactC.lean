/-
  NestNumbers: what it calls.
-/
import Derived.Test.YtbpbclmlkdnfbaaRows
import Derived.ProofKit
import Derived.OpenShut
import Derived.WalkKit
import Derived.ChangeOld
namespace Go.Proofs.Ytbpbclmlkdnfbaa.nestNumbers
open Go.ChangeShapes Go.WideShapes Go.ChangeAt Go.RowKit
theorem unf : (Rows.nestNumbersRow.unfollowed == Try.pinned.checked.prog.unfollowed 5) = true := by kernel_rfl
theorem rec : (Rows.nestNumbersRow.recurses == Try.pinned.checked.prog.recurses 5) = true := by kernel_rfl
end Go.Proofs.Ytbpbclmlkdnfbaa.nestNumbers
