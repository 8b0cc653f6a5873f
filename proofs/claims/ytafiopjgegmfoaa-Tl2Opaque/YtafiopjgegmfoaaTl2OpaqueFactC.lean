/-
  Tl2Opaque: what it calls.
-/
import Derived.Test.YtafiopjgegmfoaaRows
import Derived.ProofKit
import Derived.OpenShut
import Derived.WalkKit
import Derived.ChangeOld
namespace Go.Proofs.Ytafiopjgegmfoaa.tl2Opaque
open Go.ChangeShapes Go.WideShapes Go.ChangeAt Go.RowKit
theorem unf : (Rows.tl2OpaqueRow.unfollowed == Try.pinned.checked.prog.unfollowed 4) = true := by kernel_rfl
theorem rec : (Rows.tl2OpaqueRow.recurses == Try.pinned.checked.prog.recurses 4) = true := by kernel_rfl
end Go.Proofs.Ytafiopjgegmfoaa.tl2Opaque
