/-
  TableNone: what it names.
-/
import Derived.Test.YtlbjalodjcajfaaRows
import Derived.ProofKit
import Derived.OpenShut
import Derived.WalkKit
import Derived.ChangeOld
namespace Go.Proofs.Ytlbjalodjcajfaa.tableNone
open Go.ChangeShapes Go.WideShapes Go.ChangeAt Go.RowKit
theorem inp : (Rows.tableNoneRow.inPlace == Try.pinned.checked.prog.inPlace 5) = true := by kernel_rfl
theorem nmd : (Rows.tableNoneRow.named == Try.pinned.checked.prog.varsNamed 5) = true := by kernel_rfl
end Go.Proofs.Ytlbjalodjcajfaa.tableNone
