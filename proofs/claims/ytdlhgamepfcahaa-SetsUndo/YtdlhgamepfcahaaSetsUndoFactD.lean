/-
  SetsUndo: what it names.
-/
import Derived.Test.YtdlhgamepfcahaaRows
import Derived.ProofKit
import Derived.OpenShut
import Derived.WalkKit
import Derived.ChangeOld
namespace Go.Proofs.Ytdlhgamepfcahaa.setsUndo
open Go.ChangeShapes Go.WideShapes Go.ChangeAt Go.RowKit
theorem inp : (Rows.setsUndoRow.inPlace == Try.pinned.checked.prog.inPlace 5) = true := by kernel_rfl
theorem nmd : (Rows.setsUndoRow.named == Try.pinned.checked.prog.varsNamed 5) = true := by kernel_rfl
end Go.Proofs.Ytdlhgamepfcahaa.setsUndo
