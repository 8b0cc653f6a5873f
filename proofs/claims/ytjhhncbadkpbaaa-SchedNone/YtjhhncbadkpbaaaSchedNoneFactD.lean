/-
  SchedNone: what it names.
-/
import Derived.Test.YtjhhncbadkpbaaaRows
import Derived.ProofKit
import Derived.OpenShut
import Derived.WalkKit
import Derived.ChangeOld
namespace Go.Proofs.Ytjhhncbadkpbaaa.schedNone
open Go.ChangeShapes Go.WideShapes Go.ChangeAt Go.RowKit
theorem inp : (Rows.schedNoneRow.inPlace == Try.pinned.checked.prog.inPlace 5) = true := by kernel_rfl
theorem nmd : (Rows.schedNoneRow.named == Try.pinned.checked.prog.varsNamed 5) = true := by kernel_rfl
end Go.Proofs.Ytjhhncbadkpbaaa.schedNone
