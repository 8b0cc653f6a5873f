/-
  TableNone: what it calls.
-/
import Derived.Test.YtlbjalodjcajfaaRows
import Derived.ProofKit
import Derived.OpenShut
import Derived.WalkKit
import Derived.ChangeOld
namespace Go.Proofs.Ytlbjalodjcajfaa.tableNone
open Go.ChangeShapes Go.WideShapes Go.ChangeAt Go.RowKit
theorem unf : (Rows.tableNoneRow.unfollowed == Try.pinned.checked.prog.unfollowed 5) = true := by kernel_rfl
theorem rec : (Rows.tableNoneRow.recurses == Try.pinned.checked.prog.recurses 5) = true := by kernel_rfl
end Go.Proofs.Ytlbjalodjcajfaa.tableNone
