/-
  SetsNone: what it names.
-/
import Derived.Test.YtdlhgamepfcahaaRows
import Derived.ProofKit
import Derived.OpenShut
import Derived.WalkKit
import Derived.ChangeOld
namespace Go.Proofs.Ytdlhgamepfcahaa.setsNone
open Go.ChangeShapes Go.WideShapes Go.ChangeAt Go.RowKit
theorem inp : (Rows.setsNoneRow.inPlace == Try.pinned.checked.prog.inPlace 4) = true := by kernel_rfl
theorem nmd : (Rows.setsNoneRow.named == Try.pinned.checked.prog.varsNamed 4) = true := by kernel_rfl
end Go.Proofs.Ytdlhgamepfcahaa.setsNone
