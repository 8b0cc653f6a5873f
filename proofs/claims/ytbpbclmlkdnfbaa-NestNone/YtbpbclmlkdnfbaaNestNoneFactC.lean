/-
  NestNone: what it calls.
-/
import Derived.Test.YtbpbclmlkdnfbaaRows
import Derived.ProofKit
import Derived.OpenShut
import Derived.WalkKit
import Derived.ChangeOld
namespace Go.Proofs.Ytbpbclmlkdnfbaa.nestNone
open Go.ChangeShapes Go.WideShapes Go.ChangeAt Go.RowKit
theorem unf : (Rows.nestNoneRow.unfollowed == Try.pinned.checked.prog.unfollowed 6) = true := by kernel_rfl
theorem rec : (Rows.nestNoneRow.recurses == Try.pinned.checked.prog.recurses 6) = true := by kernel_rfl
end Go.Proofs.Ytbpbclmlkdnfbaa.nestNone
