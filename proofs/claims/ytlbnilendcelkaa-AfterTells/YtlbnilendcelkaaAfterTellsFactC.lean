/-
  AfterTells: what it calls.
-/
import Derived.Test.YtlbnilendcelkaaRows
import Derived.ProofKit
import Derived.OpenShut
import Derived.WalkKit
import Derived.ChangeOld
namespace Go.Proofs.Ytlbnilendcelkaa.afterTells
open Go.ChangeShapes Go.WideShapes Go.ChangeAt Go.RowKit
theorem unf : (Rows.afterTellsRow.unfollowed == Try.pinned.checked.prog.unfollowed 4) = true := by kernel_rfl
theorem rec : (Rows.afterTellsRow.recurses == Try.pinned.checked.prog.recurses 4) = true := by kernel_rfl
end Go.Proofs.Ytlbnilendcelkaa.afterTells
