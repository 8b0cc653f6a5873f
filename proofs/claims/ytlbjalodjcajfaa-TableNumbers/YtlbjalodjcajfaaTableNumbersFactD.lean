/-
  TableNumbers: what it names.
-/
import Derived.Test.YtlbjalodjcajfaaRows
import Derived.ProofKit
import Derived.OpenShut
import Derived.WalkKit
import Derived.ChangeOld
namespace Go.Proofs.Ytlbjalodjcajfaa.tableNumbers
open Go.ChangeShapes Go.WideShapes Go.ChangeAt Go.RowKit
theorem inp : (Rows.tableNumbersRow.inPlace == Try.pinned.checked.prog.inPlace 3) = true := by kernel_rfl
theorem nmd : (Rows.tableNumbersRow.named == Try.pinned.checked.prog.varsNamed 3) = true := by kernel_rfl
end Go.Proofs.Ytlbjalodjcajfaa.tableNumbers
