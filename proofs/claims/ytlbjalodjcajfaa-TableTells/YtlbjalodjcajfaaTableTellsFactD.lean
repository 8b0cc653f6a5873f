/-
  TableTells: what it names.
-/
import Derived.Test.YtlbjalodjcajfaaRows
import Derived.ProofKit
import Derived.OpenShut
import Derived.WalkKit
import Derived.ChangeOld
namespace Go.Proofs.Ytlbjalodjcajfaa.tableTells
open Go.ChangeShapes Go.WideShapes Go.ChangeAt Go.RowKit
theorem inp : (Rows.tableTellsRow.inPlace == Try.pinned.checked.prog.inPlace 4) = true := by kernel_rfl
theorem nmd : (Rows.tableTellsRow.named == Try.pinned.checked.prog.varsNamed 4) = true := by kernel_rfl
end Go.Proofs.Ytlbjalodjcajfaa.tableTells
