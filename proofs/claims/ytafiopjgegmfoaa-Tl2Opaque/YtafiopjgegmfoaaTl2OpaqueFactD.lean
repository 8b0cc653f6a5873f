/-
  Tl2Opaque: what it names.
-/
import Derived.Test.YtafiopjgegmfoaaRows
import Derived.ProofKit
import Derived.OpenShut
import Derived.WalkKit
import Derived.ChangeOld
namespace Go.Proofs.Ytafiopjgegmfoaa.tl2Opaque
open Go.ChangeShapes Go.WideShapes Go.ChangeAt Go.RowKit
theorem inp : (Rows.tl2OpaqueRow.inPlace == Try.pinned.checked.prog.inPlace 4) = true := by kernel_rfl
theorem nmd : (Rows.tl2OpaqueRow.named == Try.pinned.checked.prog.varsNamed 4) = true := by kernel_rfl
end Go.Proofs.Ytafiopjgegmfoaa.tl2Opaque
