/-
  SetsKeep: what it names.
-/
import Derived.Test.YtdlhgamepfcahaaRows
import Derived.ProofKit
import Derived.OpenShut
import Derived.WalkKit
import Derived.ChangeOld
namespace Go.Proofs.Ytdlhgamepfcahaa.setsKeep
open Go.ChangeShapes Go.WideShapes Go.ChangeAt Go.RowKit
theorem inp : (Rows.setsKeepRow.inPlace == Try.pinned.checked.prog.inPlace 6) = true := by kernel_rfl
theorem nmd : (Rows.setsKeepRow.named == Try.pinned.checked.prog.varsNamed 6) = true := by kernel_rfl
end Go.Proofs.Ytdlhgamepfcahaa.setsKeep
