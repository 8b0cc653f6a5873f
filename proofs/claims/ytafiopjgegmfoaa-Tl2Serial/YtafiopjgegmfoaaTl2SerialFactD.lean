/-
  Tl2Serial: what it names.
-/
import Derived.Test.YtafiopjgegmfoaaRows
import Derived.ProofKit
import Derived.OpenShut
import Derived.WalkKit
import Derived.ChangeOld
namespace Go.Proofs.Ytafiopjgegmfoaa.tl2Serial
open Go.ChangeShapes Go.WideShapes Go.ChangeAt Go.RowKit
theorem inp : (Rows.tl2SerialRow.inPlace == Try.pinned.checked.prog.inPlace 3) = true := by kernel_rfl
theorem nmd : (Rows.tl2SerialRow.named == Try.pinned.checked.prog.varsNamed 3) = true := by kernel_rfl
end Go.Proofs.Ytafiopjgegmfoaa.tl2Serial
