/-
  SchedNumbers: what it calls.
-/
import Derived.Test.YtjhhncbadkpbaaaRows
import Derived.ProofKit
import Derived.OpenShut
import Derived.WalkKit
import Derived.ChangeOld
namespace Go.Proofs.Ytjhhncbadkpbaaa.schedNumbers
open Go.ChangeShapes Go.WideShapes Go.ChangeAt Go.RowKit
theorem unf : (Rows.schedNumbersRow.unfollowed == Try.pinned.checked.prog.unfollowed 3) = true := by kernel_rfl
theorem rec : (Rows.schedNumbersRow.recurses == Try.pinned.checked.prog.recurses 3) = true := by kernel_rfl
end Go.Proofs.Ytjhhncbadkpbaaa.schedNumbers
