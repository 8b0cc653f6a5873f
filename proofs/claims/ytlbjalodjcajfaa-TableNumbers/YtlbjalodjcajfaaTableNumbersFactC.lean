/-
  TableNumbers: what it calls.
-/
import Derived.Test.YtlbjalodjcajfaaRows
import Derived.ProofKit
import Derived.OpenShut
import Derived.WalkKit
import Derived.ChangeOld
namespace Go.Proofs.Ytlbjalodjcajfaa.tableNumbers
open Go.ChangeShapes Go.WideShapes Go.ChangeAt Go.RowKit
theorem unf : (Rows.tableNumbersRow.unfollowed == Try.pinned.checked.prog.unfollowed 3) = true := by kernel_rfl
theorem rec : (Rows.tableNumbersRow.recurses == Try.pinned.checked.prog.recurses 3) = true := by kernel_rfl
end Go.Proofs.Ytlbjalodjcajfaa.tableNumbers
