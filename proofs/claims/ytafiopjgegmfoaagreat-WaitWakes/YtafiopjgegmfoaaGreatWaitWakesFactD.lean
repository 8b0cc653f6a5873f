/-
  WaitWakes: what it names.
-/
import Derived.Test.YtafiopjgegmfoaaGreatRows
import Derived.ProofKit
import Derived.OpenShut
import Derived.WalkKit
import Derived.ChangeOld
namespace Go.Proofs.YtafiopjgegmfoaaGreat.waitWakes
open Go.ChangeShapes Go.WideShapes Go.ChangeAt Go.RowKit
theorem inp : (Rows.waitWakesRow.inPlace == Tryz.pinned.checked.prog.inPlace 4) = true := by kernel_rfl
theorem nmd : (Rows.waitWakesRow.named == Tryz.pinned.checked.prog.varsNamed 4) = true := by kernel_rfl
end Go.Proofs.YtafiopjgegmfoaaGreat.waitWakes
