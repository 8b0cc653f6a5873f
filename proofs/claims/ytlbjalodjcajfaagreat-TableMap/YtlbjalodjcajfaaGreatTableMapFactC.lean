/-
  TableMap: what it calls. TableMap: what it names.
-/
import Derived.Test.YtlbjalodjcajfaaGreatRows
import Derived.ProofKit
import Derived.OpenShut
import Derived.WalkKit
import Derived.ChangeOld
namespace Go.Proofs.YtlbjalodjcajfaaGreat.tableMap
open Go.ChangeShapes Go.WideShapes Go.ChangeAt Go.RowKit
theorem unf : (Rows.tableMapRow.unfollowed == Tryz.pinned.checked.prog.unfollowed 3) = true := by kernel_rfl
theorem rec : (Rows.tableMapRow.recurses == Tryz.pinned.checked.prog.recurses 3) = true := by kernel_rfl
end Go.Proofs.YtlbjalodjcajfaaGreat.tableMap
namespace Go.Proofs.YtlbjalodjcajfaaGreat.tableMap
open Go.ChangeShapes Go.WideShapes Go.ChangeAt Go.RowKit
theorem inp : (Rows.tableMapRow.inPlace == Tryz.pinned.checked.prog.inPlace 3) = true := by kernel_rfl
theorem nmd : (Rows.tableMapRow.named == Tryz.pinned.checked.prog.varsNamed 3) = true := by kernel_rfl
end Go.Proofs.YtlbjalodjcajfaaGreat.tableMap
