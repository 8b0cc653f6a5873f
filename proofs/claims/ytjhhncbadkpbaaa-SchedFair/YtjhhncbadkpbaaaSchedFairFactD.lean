/-
  SchedFair: what it names.
-/
import Derived.Test.YtjhhncbadkpbaaaRows
import Derived.ProofKit
import Derived.OpenShut
import Derived.WalkKit
import Derived.ChangeOld
namespace Go.Proofs.Ytjhhncbadkpbaaa.schedFair
open Go.ChangeShapes Go.WideShapes Go.ChangeAt Go.RowKit
theorem inp : (Rows.schedFairRow.inPlace == Try.pinned.checked.prog.inPlace 7) = true := by kernel_rfl
theorem nmd : (Rows.schedFairRow.named == Try.pinned.checked.prog.varsNamed 7) = true := by kernel_rfl
end Go.Proofs.Ytjhhncbadkpbaaa.schedFair
